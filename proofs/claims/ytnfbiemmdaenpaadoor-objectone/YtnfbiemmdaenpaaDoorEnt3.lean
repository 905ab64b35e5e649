/-
  WALK: (object.tree).write.
  WALK: object.readTree.
-/
import Derived.Test.YtnfbiemmdaenpaaDoorEnt1
import Derived.Test.YtnfbiemmdaenpaaDoorRows0
namespace Go.Proofs.YtnfbiemmdaenpaaDoor
open Go.RowKit

theorem slice_id (b o : Nat) (W : World) : (Instr.sliceAt 25 (.pointer (some ⟨b, o, none⟩)) none none none).run Tryd.prog W = .ok (.slice (some ⟨b, o, none⟩) 32 32) W := by
  simp [Instr.sliceAt, go_sem, run_underlying Tryd.underlying25]
theorem range_bytes {w : World} {b o : Nat} {xs : List Int} (h : w.rangeAt b o (xs.map (Value.int .u8))) : BytesAt w (.slice (some ⟨b, o, none⟩) xs.length xs.length) xs :=
  ⟨_, _, rfl, Nat.le_refl _, fun e => (by cases e), fun _ => ⟨b, o, rfl, fun i u hu => h i _ (by rw [List.getElem?_map, hu]; rfl)⟩⟩

def entB (e : EntL) : List Int := fixedB e.mode 1 ++ (varB e.name.length ++ e.name) ++ e.id
def entsB (es : List EntL) : List Int := es.flatMap entB
/-- A tree's encoding. -/
def encT (es : List EntL) : List Int := fixedB 2 1 ++ varB es.length ++ entsB es
theorem entsB_succ {es : List EntL} {k : Nat} {e : EntL} (h : es[k]? = some e) : entsB (es.take (k + 1)) = entsB (es.take k) ++ entB e := by
  have hlt : k < es.length := (List.getElem?_eq_some_iff.1 h).1
  have ho : es[k] = e := (List.getElem?_eq_some_iff.1 h).2
  unfold entsB
  rw [List.take_succ_eq_append_getElem hlt, List.flatMap_append, ho]
  simp
theorem entB_len (e : EntL) (hn : e.name.length ≤ 255) (hi : e.id.length = 32) : (entB e).length ≤ 300 := by
  have := varB_len (e.name.length : Int) (by omega) (by omega)
  unfold entB
  simp only [List.length_append, fixedB_len]
  omega
theorem entsB_len : ∀ es : List EntL, (∀ e, e ∈ es → e.name.length ≤ 255 ∧ e.id.length = 32) → (entsB es).length ≤ es.length * 300
  | [], _ => by simp [entsB]
  | e :: r, h => by
    have h1 := entB_len e (h e (by simp)).1 (h e (by simp)).2
    have h2 := entsB_len r fun x hx => h x (by simp [hx])
    unfold entsB at h2 ⊢
    rw [List.flatMap_cons, List.length_append, List.length_cons]
    omega

/-- A Writer on its way: what it holds, and what has turned since w0. -/
structure WSt (w0 W : World) (wb B : Nat) (zs : List Int) (S S' : List Nat) : Prop where
  at' : WAt W wb B zs S'
  keep : Kept S w0 W
  foot : ∀ x, x ∈ S' → x ∈ S ∨ w0.heap.size ≤ x
theorem WSt.next {w0 W W' : World} {wb B : Nat} {zs us : List Int} {S S' : List Nat} (h : WSt w0 W wb B zs S S') (k : Wrote W W' wb B us S') : ∃ S'', WSt w0 W' wb B us S S'' ∧ Kept S' W W' ∧ ∀ x, x ∈ S'' → x ∈ S' ∨ W.heap.size ≤ x := by
  obtain ⟨S'', hw, hk, hs⟩ := k
  refine ⟨S'', ⟨hw, h.keep.trans hk h.foot, fun x hx => ?_⟩, hk, hs⟩
  rcases hs x hx with h1 | h1
  · exact h.foot x h1
  · exact Or.inr (Nat.le_trans h.keep.size h1)
theorem WSt.kept {w0 W W' : World} {wb B : Nat} {zs : List Int} {S S' : List Nat} (h : WSt w0 W wb B zs S S') (k : Kept [] W W') : WSt w0 W' wb B zs S S' :=
  ⟨h.at'.kept k (by simp), h.keep.then (k.more (by simp)), h.foot⟩
theorem WSt.wrote {w0 W : World} {wb B : Nat} {zs : List Int} {S S' : List Nat} (h : WSt w0 W wb B zs S S') : Wrote w0 W wb B zs S := ⟨S', h.at', h.keep, h.foot⟩
theorem WSt.start {w : World} {wb B : Nat} {zs : List Int} {S : List Nat} (h : WAt w wb B zs S) : WSt w w wb B zs S S := ⟨h, Kept.refl _ _, fun _ hx => Or.inl hx⟩

set_option maxRecDepth 100000 in
set_option maxHeartbeats 2000000 in
theorem treeWrite_any (v : Value) (es : List EntL) {w : World} {wb B : Nat} {zs : List Int} {S : List Nat} (h : WAt w wb B zs S) (hBw : B ≤ w.heap.size) (hv : EntsAt w v es) (hd : es ≠ [] → ∀ b, blkOf v = some b → b ∉ S)
    (hg : ∀ e, e ∈ es → e.Good ∧ 0 ≤ e.mode ∧ e.mode ≤ 255 ∧ e.name.length ≤ 255) (hn : es.length ≤ 1024) (hz : zs.length ≤ 1000000) :
    Calls Tryd.prog 103 #[v, .pointer (some ⟨wb, 0, none⟩)] w fun e w' => e = .returned (.tuple #[]) ∧ Wrote w w' wb B (zs ++ encT es) S := by
  have HV : Hid (∀ W, Kept S w W → EntsAt W v es) := fun W k => hv.keep k hd
  have HG : Hid (∀ e, e ∈ es → e.Good ∧ 0 ≤ e.mode ∧ e.mode ≤ 255 ∧ e.name.length ≤ 255) := hg
  have hun := Tryd.underlying74
  obtain ⟨ao, cap, rfl, hcap, hlen, _⟩ := hv.form
  have hvl := varB_len (es.length : Int) (by omega) (by omega)
  have HW0 : Hid (WSt w w wb B zs S S) := WSt.start h
  have HU0 : Hid (∀ W S', WSt w W wb B zs S S' → Calls Tryd.prog 98 #[.pointer (some ⟨wb, 0, none⟩), .int .u8 2] W fun e w' => e = .returned (.tuple #[]) ∧ Wrote W w' wb B (zs ++ fixedB 2 1) S') := fun W S' q => WU8_any q.at' (Nat.le_trans hBw q.keep.size) 2 (by decide) (by decide) (by omega)
  have HU1 : Hid (∀ W S', WSt w W wb B (zs ++ fixedB 2 1) S S' → Calls Tryd.prog 104 #[.pointer (some ⟨wb, 0, none⟩), .int .u64 es.length] W fun e w' => e = .returned (.tuple #[]) ∧ Wrote W w' wb B (zs ++ fixedB 2 1 ++ varB es.length) S') := fun W S' q => WVar_any q.at' (Nat.le_trans hBw q.keep.size) _ (by omega) (by omega) (by rw [List.length_append, fixedB_len]; omega)
  clear hv hg h
  go_enter Tryd.func103, Tryd.ntmps103
  go_wp2_with (first
    | (go_at_call 98; refine (HU0.out _ _ HW0.out).mono ?_; rintro e w1 ⟨rfl, hw1⟩
       obtain ⟨S1, hs1, _, _⟩ := HW0.out.next hw1
       have HW1 : Hid _ := hs1
       clear hs1 hw1)
    | (go_at_call 104; refine (HU1.out _ _ HW1.out).mono ?_; rintro e w2 ⟨rfl, hw2⟩
       obtain ⟨S2, hs2, _, _⟩ := HW1.out.next hw2
       have HW2 : Hid _ := hs2
       clear hs2 hw2))
  have HH : Hid ((zs ++ fixedB 2 1 ++ varB es.length).length ≤ 1000100) := by
    have : (zs ++ fixedB 2 1 ++ varB es.length).length ≤ 1000100 := by rw [List.length_append, List.length_append, fixedB_len]; omega
    exact this
  have HE : Hid (encT es = fixedB 2 1 ++ varB es.length ++ entsB es) := rfl
  have HA : Hid (zs ++ fixedB 2 1 ++ varB es.length = zs ++ (fixedB 2 1 ++ varB es.length)) := List.append_assoc _ _ _
  generalize zs ++ fixedB 2 1 ++ varB es.length = hs at *
  go_loopw [5, 15] (fun _ s15 wr => ∃ k : Nat, k ≤ es.length ∧ s15 = .int .i64 k ∧ ∃ S', Hid (WSt w wr wb B (hs ++ entsB (es.take k)) S S')) (fun _ s15 _ => es.length - (intOf s15).toNat)
  case atStart => exact ⟨0, Nat.zero_le _, rfl, S2, by rw [List.take_zero]; unfold entsB; rw [List.flatMap_nil, List.append_nil]; exact HW2⟩
  case round =>
    clear HW0 HW1 HW2 HU0 HU1 hvl
    obtain ⟨k, hk, rfl, S3, HW⟩ := hrel
    by_cases hlt : k < es.length
    · obtain ⟨e, he⟩ : ∃ e, es[k]? = some e := ⟨_, List.getElem?_eq_getElem hlt⟩
      obtain ⟨hge, hm0, hm1, hnl⟩ := HG.out e (List.mem_of_getElem? he)
      obtain ⟨ao', cap', hvv, _, _, hc⟩ := (HV.out wr HW.out.keep).form
      injection hvv with e1 e2 e3
      subst e1 e3
      obtain ⟨b, off, rfl, hh⟩ := hc (by rintro rfl; simp at hlt)
      have hr := hh k e he
      have hse : (Tryd.prog.info? 74).map (·.size) = some e.row.length := by rw [EntL.row_len hge.id]; exact Tryd.infoEnt
      have hsa : (Tryd.prog.info? 74).map (·.size) = some e.row.toArray.size := by rw [List.size_toArray]; exact hse
      have h34 : e.row.toArray.size = 34 := by rw [List.size_toArray, EntL.row_len hge.id]
      have h1 := ent_one e
      obtain ⟨x0, x1, x2⟩ := ent_cells wr e
      have hlk : (entsB (es.take k)).length ≤ 307200 := by
        have h1 := entsB_len (es.take k) fun x hx => ⟨(HG.out x (List.mem_of_mem_take hx)).2.2.2, (HG.out x (List.mem_of_mem_take hx)).1.id.1⟩
        have h2 : (es.take k).length ≤ 1024 := by rw [List.length_take]; omega
        omega
      have hvn := varB_len (e.name.length : Int) (by omega) (by omega)
      have HX0 : Hid (WSt w (wr.alloc (.cells e.row.toArray 74)) wb B (hs ++ entsB (es.take k)) S S3) := HW.out.kept ((Kept.refl _ _).alloc _)
      have HXn : Hid (∀ x, x ∈ S3 → x < wr.heap.size) := fun x hx => (HW.out.at'.lt x hx).2
      have HXS : Hid (wr.heap.size < (wr.alloc (.cells e.row.toArray 74)).heap.size) := by
        have : wr.heap.size < (wr.alloc (.cells e.row.toArray 74)).heap.size := by rw [World.size_alloc]; omega
        exact this
      have HEB : Hid (hs ++ entsB (es.take (k + 1)) = hs ++ entsB (es.take k) ++ fixedB e.mode 1 ++ varB e.name.length ++ e.name ++ e.id) := by
        rw [entsB_succ he]
        unfold entB
        have : hs ++ (entsB (es.take k) ++ (fixedB e.mode 1 ++ (varB e.name.length ++ e.name) ++ e.id)) = hs ++ entsB (es.take k) ++ fixedB e.mode 1 ++ varB e.name.length ++ e.name ++ e.id := by simp only [List.append_assoc]
        exact this
      have HLH := HH.out
      have HC1 : Hid (∀ W S', WSt w W wb B (hs ++ entsB (es.take k)) S S' → Calls Tryd.prog 98 #[.pointer (some ⟨wb, 0, none⟩), .int .u8 e.mode] W fun e' w' => e' = .returned (.tuple #[]) ∧ Wrote W w' wb B (hs ++ entsB (es.take k) ++ fixedB e.mode 1) S') := fun W S' q => WU8_any q.at' (Nat.le_trans hBw q.keep.size) _ hm0 hm1 (by rw [List.length_append]; omega)
      have HC2 : Hid (∀ W S', WSt w W wb B (hs ++ entsB (es.take k) ++ fixedB e.mode 1) S S' → Calls Tryd.prog 105 #[.pointer (some ⟨wb, 0, none⟩), .string (strOfNums e.name)] W fun e' w' => e' = .returned (.tuple #[]) ∧ Wrote W w' wb B (hs ++ entsB (es.take k) ++ fixedB e.mode 1 ++ varB e.name.length ++ e.name) S') := fun W S' q => writeText_any q.at' (Nat.le_trans hBw q.keep.size) _ hge.name.1 (by rw [List.length_append, List.length_append, fixedB_len]; omega)
      have HC3 : Hid (∀ W S', WSt w W wb B (hs ++ entsB (es.take k) ++ fixedB e.mode 1 ++ varB e.name.length ++ e.name) S S' → W.rangeAt wr.heap.size 2 (e.id.map (Value.int .u8)) → Calls Tryd.prog 99 #[.pointer (some ⟨wb, 0, none⟩), .slice (some ⟨wr.heap.size, 2, none⟩) 32 32] W fun e' w' => e' = .returned (.tuple #[]) ∧ Wrote W w' wb B (hs ++ entsB (es.take k) ++ fixedB e.mode 1 ++ varB e.name.length ++ e.name ++ e.id) S') := fun W S' q hr => by
        have hb := range_bytes hr
        rw [hge.id.1] at hb
        exact WRaw_any q.at' (Nat.le_trans hBw q.keep.size) _ _ hb hge.id.2 (by rw [List.length_append, List.length_append, List.length_append, List.length_append, fixedB_len, hge.id.1]; omega)
      have hsl := fun W => slice_id wr.heap.size 2 W
      have hmw : IntKind.u8.wrap e.mode = e.mode := by rw [IntKind.wrap_u8]; omega
      clear hh hc he hge HLH hnl
      generalize hs ++ entsB (es.take k) = q0 at *
      generalize e.row = er at *
      generalize e.mode = md at *
      go_wp2_with (first
        | (refine wpList_load_mid (by rfl) 74 (.tmp 17) (by rfl) b (off + k * 34) (by rfl) er _ hr hun rfl hse ?_)
        | (refine wpList_store_new (by rfl) 74 (.tmp 5) (.tmp 18) (by rfl) wr _ er.toArray (by rfl) (by rfl) hsa (by rw [h34]; rfl) h1 ?_)
        | (go_at_call 98; refine (HC1.out _ _ HX0.out).mono ?_; rintro e' w5 ⟨rfl, hw5⟩
           obtain ⟨S5, hs5, hk5, hn5⟩ := HX0.out.next hw5
           have y1 := hk5.cell x1 (fun hx => Nat.lt_irrefl _ (HXn.out _ hx))
           have y2 := range_kept x2 hk5 (fun hx => Nat.lt_irrefl _ (HXn.out _ hx))
           have HX5 : Hid _ := hs5
           have HN5 : Hid (wr.heap.size ∉ S5) := fun hx => by
             rcases hn5 _ hx with h | h
             · exact Nat.lt_irrefl _ (HXn.out _ h)
             · have := HXS.out; omega
           clear hs5 hw5 hk5 hn5)
        | (go_at_call 105; refine (HC2.out _ _ HX5.out).mono ?_; rintro e' w6 ⟨rfl, hw6⟩
           obtain ⟨S6, hs6, hk6, _⟩ := HX5.out.next hw6
           have z2 := range_kept y2 hk6 HN5.out
           have HX6 : Hid _ := hs6
           clear hs6 hw6 hk6)
        | (go_at_call 99; refine (HC3.out _ _ HX6.out z2).mono ?_; rintro e' w7 ⟨rfl, hw7⟩
           obtain ⟨S7, hs7, _, _⟩ := HX6.out.next hw7
           have HX7 : Hid _ := hs7
           clear hs7 hw7))
      go_roundw
      case rel => exact ⟨k + 1, by omega, by go_num, S7, by rw [HEB.out]; exact HX7⟩
      case measure => simp [intOf]; omega
    · obtain rfl : k = es.length := by omega
      have HF : Hid (Wrote w wr wb B (zs ++ encT es) S) := by
        have h := HW.out.wrote
        rw [List.take_length, HA.out, List.append_assoc, ← HE.out] at h
        exact h
      clear HW
      go_wp2
      go_end0
      exact ⟨rfl, HF.out⟩
end Go.Proofs.YtnfbiemmdaenpaaDoor

namespace Go.Proofs.YtnfbiemmdaenpaaDoor
open Go.RowKit

def zeroE : EntL := ⟨0, [], zero32⟩
theorem Tryd.zeroEnt : (Tryd.prog.info? 74).map (fun i => (i.zero, i.size, i.bytes)) = some (some (.agg zeroE.row.toArray), 34, 56) := by kernel_rfl
theorem take_var_le (xs : List Int) (ho : Octs xs) (pl f : Nat) (most : Int) (h0 : 0 ≤ most) : 0 ≤ (takeL xs pl f 1 0 most).n ∧ (takeL xs pl f 1 0 most).n ≤ most := by
  unfold takeL
  split
  · exact ⟨Int.le_refl _, h0⟩
  · split
    · exact ⟨Int.le_refl _, h0⟩
    · rename_i h1 h2
      have e : lookL (xs.drop pl) 1 0 most = varL (xs.drop pl) most := by unfold lookL; rw [if_neg (by decide), if_pos rfl]
      rw [e] at h2 ⊢
      have hg := varL_good (xs.drop pl) most (octs_drop ho pl)
      exact ⟨hg.n0, hg.le (by simpa using h2)⟩

/-- One entry read: it, the place and the fault behind it. -/
def rdE (xs : List Int) (pl f : Nat) : EntL × Nat × Nat :=
  (⟨(takeL xs pl f 0 1 0).n, (takeL xs (takeL xs pl f 0 1 0).pl (takeL xs pl f 0 1 0).f 2 0 255).text,
    idOf (takeL xs (takeL xs (takeL xs pl f 0 1 0).pl (takeL xs pl f 0 1 0).f 2 0 255).pl (takeL xs (takeL xs pl f 0 1 0).pl (takeL xs pl f 0 1 0).f 2 0 255).f 3 32 0).text⟩,
   (takeL xs (takeL xs (takeL xs pl f 0 1 0).pl (takeL xs pl f 0 1 0).f 2 0 255).pl (takeL xs (takeL xs pl f 0 1 0).pl (takeL xs pl f 0 1 0).f 2 0 255).f 3 32 0).pl,
   (takeL xs (takeL xs (takeL xs pl f 0 1 0).pl (takeL xs pl f 0 1 0).f 2 0 255).pl (takeL xs (takeL xs pl f 0 1 0).pl (takeL xs pl f 0 1 0).f 2 0 255).f 3 32 0).f)
/-- So many entries read. -/
def rdEs (xs : List Int) (pl f : Nat) : Nat → List EntL × Nat × Nat
  | 0 => ([], pl, f)
  | k + 1 => ((rdEs xs pl f k).1 ++ [(rdE xs (rdEs xs pl f k).2.1 (rdEs xs pl f k).2.2).1], (rdE xs (rdEs xs pl f k).2.1 (rdEs xs pl f k).2.2).2)
theorem rdEs_len (xs : List Int) (pl f : Nat) : ∀ k, (rdEs xs pl f k).1.length = k
  | 0 => rfl
  | k + 1 => by unfold rdEs; rw [List.length_append, rdEs_len xs pl f k]; rfl
theorem idOf_len {t : List Int} (h : t.length ≤ 32) : (idOf t).length = 32 := by
  unfold idOf
  rw [List.length_append, List.length_drop]
  show t.length + (32 - t.length) = 32
  omega
theorem rdEs_ids (xs : List Int) (pl f : Nat) : ∀ k e, e ∈ (rdEs xs pl f k).1 → e.id.length = 32
  | 0, e, h => by simp [rdEs] at h
  | k + 1, e, h => by
    unfold rdEs at h
    rcases List.mem_append.1 h with h | h
    · exact rdEs_ids xs pl f k e h
    · rw [List.mem_singleton.1 h]
      exact idOf_len (raw32_len _ _ _)

/-- What lies in the list on the way: the entries that are read, and zeros. -/
def half (l : List EntL) (n : Nat) : List (List Value) := (l ++ List.replicate (n - l.length) zeroE).map EntL.row
theorem half_row (l : List EntL) (n : Nat) (hl : ∀ e, e ∈ l → e.id.length = 32) : ∀ r, r ∈ half l n → r.length = 34 := fun r hr => by
  unfold half at hr
  obtain ⟨e, he, rfl⟩ := List.mem_map.1 hr
  have : e.id.length = 32 := by
    rcases List.mem_append.1 he with h | h
    · exact hl e h
    · rw [(List.mem_replicate.1 h).2]; rfl
  simp [EntL.row, this]
theorem half_at (l : List EntL) (n : Nat) (h : l.length < n) : (half l n)[l.length]? = some zeroE.row := by
  unfold half
  rw [List.getElem?_map, List.getElem?_append_right (Nat.le_refl _), Nat.sub_self, List.getElem?_replicate, if_pos (by omega)]
  rfl
theorem half_put (l : List EntL) (n : Nat) (h : l.length < n) (e : EntL) : (half l n).set l.length e.row = half (l ++ [e]) n := by
  unfold half
  rw [List.length_append, List.length_singleton]
  obtain ⟨m, hm⟩ : ∃ m, n - l.length = m + 1 := ⟨n - l.length - 1, by omega⟩
  rw [show n - (l.length + 1) = m by omega, hm, List.replicate_succ, ← List.map_set, List.set_append_right _ _ (Nat.le_refl _), Nat.sub_self, List.set_cons_zero]
  simp
theorem ent_puts (m : Int) (s : List Int) (i : List Int) (hi : i.length = 32) : putL (putL (putL zeroE.row 0 [.int .i64 m]) 1 [.string (strOfNums s)]) 2 (i.map (Value.int .u8)) = (EntL.mk m s i).row := by
  unfold putL EntL.row zeroE
  simp [zero32, hi]

set_option maxRecDepth 100000 in
set_option maxHeartbeats 2000000 in
theorem readTree_any {w : World} {r g : Nat} {xs : List Int} {pl f : Nat} (R : Rdr w r g xs pl f) (y : Took) (hy : Hid (y = takeL xs pl f 1 0 1024)) :
    Calls Tryd.prog 45 #[.pointer (some ⟨r, 0, none⟩)] w fun e w' => ∃ b, e = .returned (.slice (some ⟨b, 0, none⟩) y.n.toNat y.n.toNat) ∧ RowsIn w' b 74 ((rdEs xs y.pl y.f y.n.toNat).1.map EntL.row) ∧ w.heap.size ≤ b ∧
      Rdr w' r g xs (rdEs xs y.pl y.f y.n.toNat).2.1 (rdEs xs y.pl y.f y.n.toNat).2.2 ∧ Kept [r] w w' := by
  have hcall := Var_any R 1024 (by decide) y hy
  have hn : 0 ≤ y.n ∧ y.n ≤ 1024 := by rw [hy.out]; exact take_var_le xs R.oct pl f 1024 (by decide)
  obtain ⟨n, hyn⟩ : ∃ n : Nat, y.n = (n : Int) := ⟨y.n.toNat, by omega⟩
  rw [hyn] at hcall hn ⊢
  rw [Int.toNat_natCast]
  obtain ⟨i0, hi, hez⟩ := Option.map_eq_some_iff.1 Tryd.zeroEnt
  simp only [Prod.mk.injEq] at hez
  obtain ⟨hz0, hz1, hz2⟩ := hez
  have hmk : ∀ W : World, (Instr.makeSlice 81 (.int .u64 (n : Int)) (.int .u64 (n : Int))).run Tryd.prog W = .ok (.slice (some ⟨W.heap.size, 0, none⟩) n n) (W.alloc (.cells (half [] n).flatten.toArray 74)) := fun W => by
    have h := run_make (P := Tryd.prog) W 81 74 i0 (.agg zeroE.row.toArray) Tryd.underlying81 hi hz0 .u64 .u64 (n : Int) (n : Int) (by omega) (Int.le_refl _) (by rw [hz2]; omega) (by omega)
    rw [Int.toNat_natCast, hz1] at h
    have e : madeCells (Value.agg zeroE.row.toArray).cells (n * 34) = (half [] n).flatten.toArray := by
      show madeCells zeroE.row.toArray (n * 34) = _
      rw [made_rows zeroE.row 34 n (by decide) rfl]
      unfold half
      simp
    rw [e] at h
    exact h
  clear R hy hyn hi hz0 hz1 hz2
  go_enter Tryd.func45, Tryd.ntmps45
  go_wp2_with (go_at_call 58; refine hcall.mono ?_; rintro e w1 ⟨rfl, hr1, hk1⟩; have HR1 : Hid _ := hr1; have HK1 : Hid _ := hk1; clear hr1 hk1)
  have hwb := HK1.out.size
  have HRA : Hid (Rdr (w1.alloc (.cells (half [] n).flatten.toArray 74)) r g xs y.pl y.f) := HR1.out.alloc _
  have HKA : Hid (Kept [r] w (w1.alloc (.cells (half [] n).flatten.toArray 74))) := HK1.out.alloc _
  have HIA : Hid (RowsIn (w1.alloc (.cells (half [] n).flatten.toArray 74)) w1.heap.size 74 (half [] n)) := heap_alloc_new w1 _
  have hrb : r < w1.heap.size := lt_of_block HR1.out.blk
  have hgb : g < w1.heap.size := lt_of_block HR1.out.row
  generalize w1.heap.size = b at *
  go_loopw [4, 10] (fun _ s10 wr => ∃ k : Nat, k ≤ n ∧ s10 = .int .i64 k ∧ Hid (RowsIn wr b 74 (half (rdEs xs y.pl y.f k).1 n)) ∧ Hid (Rdr wr r g xs (rdEs xs y.pl y.f k).2.1 (rdEs xs y.pl y.f k).2.2) ∧ Hid (Kept [r] w wr)) (fun _ s10 _ => n - (intOf s10).toNat)
  case atStart => exact ⟨0, Nat.zero_le _, rfl, HIA, HRA, HKA⟩
  case round =>
    clear HRA HKA HIA HR1 HK1 hcall hmk
    obtain ⟨k, hk, rfl, HI, HR, HK⟩ := hrel
    by_cases hlt : k < n
    · have hlk := rdEs_len xs y.pl y.f k
      have hidk := rdEs_ids xs y.pl y.f k
      have HE : Hid (rdEs xs y.pl y.f (k + 1) = ((rdEs xs y.pl y.f k).1 ++ [(rdE xs (rdEs xs y.pl y.f k).2.1 (rdEs xs y.pl y.f k).2.2).1], (rdE xs (rdEs xs y.pl y.f k).2.1 (rdEs xs y.pl y.f k).2.2).2)) := rfl
      generalize rdEs xs y.pl y.f k = st at *
      obtain ⟨l, p, q⟩ := st
      dsimp only at HI HR hlk hidk HE
      obtain ⟨y1, hy1⟩ : ∃ t, t = takeL xs p q 0 1 0 := ⟨_, rfl⟩
      obtain ⟨y2, hy2⟩ : ∃ t, t = takeL xs y1.pl y1.f 2 0 255 := ⟨_, rfl⟩
      obtain ⟨y3, hy3⟩ : ∃ t, t = takeL xs y2.pl y2.f 3 32 0 := ⟨_, rfl⟩
      have HRE : Hid (rdE xs p q = (⟨y1.n, y2.text, idOf y3.text⟩, y3.pl, y3.f)) := by
        unfold rdE
        rw [← hy1, ← hy2, ← hy3]
        exact rfl
      have hl3 : (idOf y3.text).length = 32 := by rw [hy3]; exact idOf_len (raw32_len _ _ _)
      have hb1 : 0 ≤ y1.n ∧ y1.n < 256 := by rw [hy1]; exact take_lt xs HR.out.oct p q 1
      have HC1 : Hid (∀ W, Rdr W r g xs p q → Calls Tryd.prog 42 #[.pointer (some ⟨r, 0, none⟩)] W fun e w' => e = .returned (.int .u8 y1.n) ∧ Rdr w' r g xs y1.pl y1.f ∧ Kept [r] W w') := fun W hW => U8_any hW y1 hy1
      have HC2 : Hid (∀ W, Rdr W r g xs y1.pl y1.f → Calls Tryd.prog 59 #[.pointer (some ⟨r, 0, none⟩), .int .i64 255] W fun e w' => e = .returned (.string (strOfNums y2.text)) ∧ Rdr w' r g xs y2.pl y2.f ∧ Kept [r] W w') := fun W hW => readText_any hW 255 (by decide) (by decide) y2 hy2
      have HC3 : Hid (∀ W, Rdr W r g xs y2.pl y2.f → Calls Tryd.prog 60 #[.pointer (some ⟨r, 0, none⟩)] W fun e w' => e = .returned (.agg (idC (idOf y3.text))) ∧ Rdr w' r g xs y3.pl y3.f ∧ Kept [r] W w') := fun W hW => readID_any hW y3 hy3
      have hrow : ∀ x, x ∈ half l n → x.length = 34 := half_row l n hidk
      have hat : (half l n)[k]? = some zeroE.row := by have h := half_at l n (by omega); rw [hlk] at h; exact h
      have HPUT : Hid ((half l n).set k (EntL.mk y1.n y2.text (idOf y3.text)).row = half (l ++ [⟨y1.n, y2.text, idOf y3.text⟩]) n) := by
        have h := half_put l n (by omega) ⟨y1.n, y2.text, idOf y3.text⟩
        rw [hlk] at h
        exact h
      have HPS : Hid (putL (putL (putL zeroE.row 0 [.int .i64 y1.n]) 1 [.string (strOfNums y2.text)]) 2 ((idOf y3.text).map (Value.int .u8)) = (EntL.mk y1.n y2.text (idOf y3.text)).row) := ent_puts _ _ _ hl3
      clear hy1 hy2 hy3
      have hkl : k < (half l n).length := (List.getElem?_eq_some_iff.1 hat).1
      have l0 : zeroE.row.length = 34 := rfl
      have hsi : (Tryd.prog.info? 25).map (·.size) = some (idC (idOf y3.text)).size := by rw [idC_size hl3]; exact Tryd.infoID
      have hai : (idC (idOf y3.text)).all (·.oneCell') = true := all_oneCell_toArray (map_oneCell _)
      have HT3 : Hid ((idC (idOf y3.text)).toList = (idOf y3.text).map (Value.int .u8)) := rfl
      have h32 : (idC (idOf y3.text)).size = 32 := idC_size hl3
      have hp1 : (putL zeroE.row 0 [.int .i64 y1.n]).length = 34 := by rw [putL_len (by rw [l0]; simp)]; exact l0
      have hrow2 : ∀ x, x ∈ (half l n).set k (putL zeroE.row 0 [.int .i64 y1.n]) → x.length = 34 := fun x hx => by
        rcases List.mem_or_eq_of_mem_set hx with h | rfl
        · exact hrow x h
        · exact hp1
      have hat2 : ((half l n).set k (putL zeroE.row 0 [.int .i64 y1.n]))[k]? = some (putL zeroE.row 0 [.int .i64 y1.n]) := List.getElem?_set_self hkl
      have hp2 : (putL (putL zeroE.row 0 [.int .i64 y1.n]) 1 [.string (strOfNums y2.text)]).length = 34 := by rw [putL_len (by rw [hp1]; simp)]; exact hp1
      have hrow3 : ∀ x, x ∈ ((half l n).set k (putL zeroE.row 0 [.int .i64 y1.n])).set k (putL (putL zeroE.row 0 [.int .i64 y1.n]) 1 [.string (strOfNums y2.text)]) → x.length = 34 := fun x hx => by
        rcases List.mem_or_eq_of_mem_set hx with h | rfl
        · exact hrow2 x h
        · exact hp2
      have hat3 : (((half l n).set k (putL zeroE.row 0 [.int .i64 y1.n])).set k (putL (putL zeroE.row 0 [.int .i64 y1.n]) 1 [.string (strOfNums y2.text)]))[k]? = some (putL (putL zeroE.row 0 [.int .i64 y1.n]) 1 [.string (strOfNums y2.text)]) := List.getElem?_set_self (by rw [List.length_set]; exact hkl)
      have hrow2 : Hid _ := hrow2
      have hrow3 : Hid _ := hrow3
      clear l0 hp1 hp2
      go_wp2_with (first
        | (go_at_call 42; refine (HC1.out _ HR.out).mono ?_; rintro e w2 ⟨rfl, hr2, hk2⟩
           have hI2 : RowsIn w2 b 74 (half l n) := HI.out.kept hk2 (by simp; omega)
           have d2 : w2.cell? ⟨b, k * 34, none⟩ = some (.int .i64 0) := hI2.range 34 (by decide) hrow k _ hat 0 _ rfl
           have f2 : w2.frozen? ⟨b, k * 34, none⟩ = false := hI2.frozen _
           have HI2 : Hid (RowsIn (w2.setCell ⟨b, k * 34, none⟩ (.int .i64 y1.n)) b 74 ((half l n).set k (putL zeroE.row 0 [.int .i64 y1.n]))) := hI2.put1 34 (by decide) hrow k _ hat 0 _ (by decide)
           have kk2 : Kept [b] w2 (w2.setCell ⟨b, k * 34, none⟩ (.int .i64 y1.n)) := (Kept.refl _ _).setCell (Or.inl (by simp)) _
           have HR2 : Hid (Rdr (w2.setCell ⟨b, k * 34, none⟩ (.int .i64 y1.n)) r g xs y1.pl y1.f) := hr2.kept kk2 (by simp; omega) (by simp; omega)
           have HK2 : Hid (Kept [r] w (w2.setCell ⟨b, k * 34, none⟩ (.int .i64 y1.n))) := (HK.out.then hk2).setCell (Or.inr hwb) _
           clear hr2 hk2 kk2 hI2)
        | (go_at_call 59; refine (HC2.out _ HR2.out).mono ?_; rintro e w3 ⟨rfl, hr3, hk3⟩
           have hI3 : RowsIn w3 b 74 ((half l n).set k (putL zeroE.row 0 [.int .i64 y1.n])) := HI2.out.kept hk3 (by simp; omega)
           have d3 : w3.cell? ⟨b, k * 34 + 1, none⟩ = some (.string (strOfNums [])) := hI3.range 34 (by decide) hrow2 k _ hat2 1 _ rfl
           have f3 : w3.frozen? ⟨b, k * 34 + 1, none⟩ = false := hI3.frozen _
           have HI3 : Hid (RowsIn (w3.setCell ⟨b, k * 34 + 1, none⟩ (.string (strOfNums y2.text))) b 74 (((half l n).set k (putL zeroE.row 0 [.int .i64 y1.n])).set k (putL (putL zeroE.row 0 [.int .i64 y1.n]) 1 [.string (strOfNums y2.text)]))) := hI3.put1 34 (by decide) hrow2 k _ hat2 1 _ (by decide)
           have kk3 : Kept [b] w3 (w3.setCell ⟨b, k * 34 + 1, none⟩ (.string (strOfNums y2.text))) := (Kept.refl _ _).setCell (Or.inl (by simp)) _
           have HR3 : Hid (Rdr (w3.setCell ⟨b, k * 34 + 1, none⟩ (.string (strOfNums y2.text))) r g xs y2.pl y2.f) := hr3.kept kk3 (by simp; omega) (by simp; omega)
           have HK3 : Hid (Kept [r] w (w3.setCell ⟨b, k * 34 + 1, none⟩ (.string (strOfNums y2.text)))) := (HK2.out.then hk3).setCell (Or.inr hwb) _
           clear hr3 hk3 kk3 hI3)
        | (go_at_call 60; refine (HC3.out _ HR3.out).mono ?_; rintro e w4 ⟨rfl, hr4, hk4⟩
           have HI4 : Hid (RowsIn w4 b 74 (((half l n).set k (putL zeroE.row 0 [.int .i64 y1.n])).set k (putL (putL zeroE.row 0 [.int .i64 y1.n]) 1 [.string (strOfNums y2.text)]))) := HI3.out.kept hk4 (by simp; omega)
           have HR4 : Hid (Rdr w4 r g xs y3.pl y3.f) := hr4
           have HK4 : Hid (Kept [r] w w4) := HK3.out.then hk4
           have HTH : Hid (w4.there b (k * 34 + 2) 32) := HI4.out.there 34 (by decide) hrow3 k _ hat3 2 32 (by decide)
           clear hr4 hk4)
        | (refine wpList_store_mid (by rfl) 25 (.tmp 31) (.tmp 29) (by rfl) b (k * 34 + 2) (idC (idOf y3.text)) (by rfl) (by rfl) (by rw [h32]; exact HTH.out) hsi hai ?_; rw [HT3.out]
           have HI5 : Hid (RowsIn (w4.setCells b (k * 34 + 2) ((idOf y3.text).map (Value.int .u8))) b 74 (half (l ++ [⟨y1.n, y2.text, idOf y3.text⟩]) n)) := by
             have h := HI4.out.put 34 (by decide) hrow3 k _ hat3 2 ((idOf y3.text).map (Value.int .u8)) (by rw [List.length_map, hl3]; exact Nat.le_refl _)
             rw [HPS.out, List.set_set, List.set_set, HPUT.out] at h
             exact h
           have HR5 : Hid (Rdr (w4.setCells b (k * 34 + 2) ((idOf y3.text).map (Value.int .u8))) r g xs y3.pl y3.f) := HR4.out.kept (Kept.setCells b (Or.inl (by simp)) _ _ _ (Kept.refl [b] w4)) (by simp; omega) (by simp; omega)
           have HK5 : Hid (Kept [r] w (w4.setCells b (k * 34 + 2) ((idOf y3.text).map (Value.int .u8)))) := Kept.setCells b (Or.inr hwb) _ _ _ HK4.out))
      go_roundw
      case rel => exact ⟨k + 1, by omega, by go_num, by rw [HE.out, HRE.out]; exact HI5, by rw [HE.out, HRE.out]; exact HR5, HK5⟩
      case measure => simp [intOf]; omega
    · obtain rfl : k = n := by omega
      have HF : Hid (RowsIn wr b 74 ((rdEs xs y.pl y.f k).1.map EntL.row)) := by
        have h := HI.out
        unfold half at h
        rw [rdEs_len, Nat.sub_self, List.replicate_zero, List.append_nil] at h
        exact h
      go_wp2
      go_ret
      exact ⟨b, rfl, HF.out, hwb, HR.out, HK.out⟩
end Go.Proofs.YtnfbiemmdaenpaaDoor
