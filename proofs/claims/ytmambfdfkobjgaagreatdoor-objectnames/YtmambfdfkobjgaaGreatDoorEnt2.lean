/-
  WALK: (object.tree).write.
-/
import Derived.Test.YtmambfdfkobjgaaGreatDoorEnt1
namespace Go.Proofs.YtmambfdfkobjgaaGreatDoor
open Go.RowKit

theorem slice_id (b o : Nat) (W : World) : (Instr.sliceAt 31 (.pointer (some ⟨b, o, none⟩)) none none none).run Tryz.prog W = .ok (.slice (some ⟨b, o, none⟩) 32 32) W := by
  simp [Instr.sliceAt, go_sem, run_underlying Tryz.underlying31]
theorem range_bytes {w : World} {b o : Nat} {xs : List Int} (h : w.rangeAt b o (xs.map (Value.int .u8))) : BytesAt w (.slice (some ⟨b, o, none⟩) xs.length xs.length) xs :=
  ⟨_, _, rfl, Nat.le_refl _, fun e => (by cases e), fun _ => ⟨b, o, rfl, fun i u hu => h i _ (by rw [List.getElem?_map, hu]; rfl)⟩⟩

def entB (e : EntL) : List Int := fixedB e.mode 1 ++ (varB e.name.length ++ e.name) ++ e.id
def entsB (es : List EntL) : List Int := es.flatMap entB
/-- A tree's encoding. -/
def encT (es : List EntL) : List Int := fixedB 2 1 ++ varB es.length ++ entsB es
theorem entsB_succ {es : List EntL} {k : Nat} {e : EntL} (h : es[k]? = some e) : entsB (es.take (k + 1)) = entsB (es.take k) ++ entB e := by
  have hlt : k < es.length := (List.getElem?_eq_some_iff.1 h).1
  have ho : es[k] = e := (List.getElem?_eq_some_iff.1 h).2
  unfold entsB
  rw [List.take_succ_eq_append_getElem hlt, List.flatMap_append, ho]
  simp
theorem entB_len (e : EntL) (hn : e.name.length ≤ 255) (hi : e.id.length = 32) : (entB e).length ≤ 300 := by
  have := varB_len (e.name.length : Int) (by omega) (by omega)
  unfold entB
  simp only [List.length_append, fixedB_len]
  omega
theorem entsB_len : ∀ es : List EntL, (∀ e, e ∈ es → e.name.length ≤ 255 ∧ e.id.length = 32) → (entsB es).length ≤ es.length * 300
  | [], _ => by simp [entsB]
  | e :: r, h => by
    have h1 := entB_len e (h e (by simp)).1 (h e (by simp)).2
    have h2 := entsB_len r fun x hx => h x (by simp [hx])
    unfold entsB at h2 ⊢
    rw [List.flatMap_cons, List.length_append, List.length_cons]
    omega

/-- A Writer on its way: what it holds, and what has turned since w0. -/
structure WSt (w0 W : World) (wb B : Nat) (zs : List Int) (S S' : List Nat) : Prop where
  at' : WAt W wb B zs S'
  keep : Kept S w0 W
  foot : ∀ x, x ∈ S' → x ∈ S ∨ w0.heap.size ≤ x
theorem WSt.next {w0 W W' : World} {wb B : Nat} {zs us : List Int} {S S' : List Nat} (h : WSt w0 W wb B zs S S') (k : Wrote W W' wb B us S') : ∃ S'', WSt w0 W' wb B us S S'' ∧ Kept S' W W' ∧ ∀ x, x ∈ S'' → x ∈ S' ∨ W.heap.size ≤ x := by
  obtain ⟨S'', hw, hk, hs⟩ := k
  refine ⟨S'', ⟨hw, h.keep.trans hk h.foot, fun x hx => ?_⟩, hk, hs⟩
  rcases hs x hx with h1 | h1
  · exact h.foot x h1
  · exact Or.inr (Nat.le_trans h.keep.size h1)
theorem WSt.kept {w0 W W' : World} {wb B : Nat} {zs : List Int} {S S' : List Nat} (h : WSt w0 W wb B zs S S') (k : Kept [] W W') : WSt w0 W' wb B zs S S' :=
  ⟨h.at'.kept k (by simp), h.keep.then (k.more (by simp)), h.foot⟩
theorem WSt.wrote {w0 W : World} {wb B : Nat} {zs : List Int} {S S' : List Nat} (h : WSt w0 W wb B zs S S') : Wrote w0 W wb B zs S := ⟨S', h.at', h.keep, h.foot⟩
theorem WSt.start {w : World} {wb B : Nat} {zs : List Int} {S : List Nat} (h : WAt w wb B zs S) : WSt w w wb B zs S S := ⟨h, Kept.refl _ _, fun _ hx => Or.inl hx⟩

set_option maxRecDepth 100000 in
set_option maxHeartbeats 2000000 in
theorem treeWrite_any (v : Value) (es : List EntL) {w : World} {wb B : Nat} {zs : List Int} {S : List Nat} (h : WAt w wb B zs S) (hBw : B ≤ w.heap.size) (hv : EntsAt w v es) (hd : es ≠ [] → ∀ b, blkOf v = some b → b ∉ S)
    (hg : ∀ e, e ∈ es → e.Good ∧ 0 ≤ e.mode ∧ e.mode ≤ 255 ∧ e.name.length ≤ 255) (hn : es.length ≤ 1024) (hz : zs.length ≤ 1000000) :
    Calls Tryz.prog 121 #[v, .pointer (some ⟨wb, 0, none⟩)] w fun e w' => e = .returned (.tuple #[]) ∧ Wrote w w' wb B (zs ++ encT es) S := by
  have HV : Hid (∀ W, Kept S w W → EntsAt W v es) := fun W k => hv.keep k hd
  have HG : Hid (∀ e, e ∈ es → e.Good ∧ 0 ≤ e.mode ∧ e.mode ≤ 255 ∧ e.name.length ≤ 255) := hg
  have hun := Tryz.underlying80
  obtain ⟨ao, cap, rfl, hcap, hlen, _⟩ := hv.form
  have hvl := varB_len (es.length : Int) (by omega) (by omega)
  have HW0 : Hid (WSt w w wb B zs S S) := WSt.start h
  have HU0 : Hid (∀ W S', WSt w W wb B zs S S' → Calls Tryz.prog 116 #[.pointer (some ⟨wb, 0, none⟩), .int .u8 2] W fun e w' => e = .returned (.tuple #[]) ∧ Wrote W w' wb B (zs ++ fixedB 2 1) S') := fun W S' q => WU8_any q.at' (Nat.le_trans hBw q.keep.size) 2 (by decide) (by decide) (by omega)
  have HU1 : Hid (∀ W S', WSt w W wb B (zs ++ fixedB 2 1) S S' → Calls Tryz.prog 122 #[.pointer (some ⟨wb, 0, none⟩), .int .u64 es.length] W fun e w' => e = .returned (.tuple #[]) ∧ Wrote W w' wb B (zs ++ fixedB 2 1 ++ varB es.length) S') := fun W S' q => WVar_any q.at' (Nat.le_trans hBw q.keep.size) _ (by omega) (by omega) (by rw [List.length_append, fixedB_len]; omega)
  clear hv hg h
  go_enter Tryz.func121, Tryz.ntmps121
  go_wp2_with (first
    | (go_at_call 116; refine (HU0.out _ _ HW0.out).mono ?_; rintro e w1 ⟨rfl, hw1⟩
       obtain ⟨S1, hs1, _, _⟩ := HW0.out.next hw1
       have HW1 : Hid _ := hs1
       clear hs1 hw1)
    | (go_at_call 122; refine (HU1.out _ _ HW1.out).mono ?_; rintro e w2 ⟨rfl, hw2⟩
       obtain ⟨S2, hs2, _, _⟩ := HW1.out.next hw2
       have HW2 : Hid _ := hs2
       clear hs2 hw2))
  have HH : Hid ((zs ++ fixedB 2 1 ++ varB es.length).length ≤ 1000100) := by
    have : (zs ++ fixedB 2 1 ++ varB es.length).length ≤ 1000100 := by rw [List.length_append, List.length_append, fixedB_len]; omega
    exact this
  have HE : Hid (encT es = fixedB 2 1 ++ varB es.length ++ entsB es) := rfl
  have HA : Hid (zs ++ fixedB 2 1 ++ varB es.length = zs ++ (fixedB 2 1 ++ varB es.length)) := List.append_assoc _ _ _
  generalize zs ++ fixedB 2 1 ++ varB es.length = hs at *
  go_loopw [5, 15] (fun _ s15 wr => ∃ k : Nat, k ≤ es.length ∧ s15 = .int .i64 k ∧ ∃ S', Hid (WSt w wr wb B (hs ++ entsB (es.take k)) S S')) (fun _ s15 _ => es.length - (intOf s15).toNat)
  case atStart => exact ⟨0, Nat.zero_le _, rfl, S2, by rw [List.take_zero]; unfold entsB; rw [List.flatMap_nil, List.append_nil]; exact HW2⟩
  case round =>
    clear HW0 HW1 HW2 HU0 HU1 hvl
    obtain ⟨k, hk, rfl, S3, HW⟩ := hrel
    by_cases hlt : k < es.length
    · obtain ⟨e, he⟩ : ∃ e, es[k]? = some e := ⟨_, List.getElem?_eq_getElem hlt⟩
      obtain ⟨hge, hm0, hm1, hnl⟩ := HG.out e (List.mem_of_getElem? he)
      obtain ⟨ao', cap', hvv, _, _, hc⟩ := (HV.out wr HW.out.keep).form
      injection hvv with e1 e2 e3
      subst e1 e3
      obtain ⟨b, off, rfl, hh⟩ := hc (by rintro rfl; simp at hlt)
      have hr := hh k e he
      have hse : (Tryz.prog.info? 80).map (·.size) = some e.row.length := by rw [EntL.row_len hge.id]; exact Tryz.infoEnt
      have hsa : (Tryz.prog.info? 80).map (·.size) = some e.row.toArray.size := by rw [List.size_toArray]; exact hse
      have h34 : e.row.toArray.size = 34 := by rw [List.size_toArray, EntL.row_len hge.id]
      have h1 := ent_one e
      obtain ⟨x0, x1, x2⟩ := ent_cells wr e
      have hlk : (entsB (es.take k)).length ≤ 307200 := by
        have h1 := entsB_len (es.take k) fun x hx => ⟨(HG.out x (List.mem_of_mem_take hx)).2.2.2, (HG.out x (List.mem_of_mem_take hx)).1.id.1⟩
        have h2 : (es.take k).length ≤ 1024 := by rw [List.length_take]; omega
        omega
      have hvn := varB_len (e.name.length : Int) (by omega) (by omega)
      have HX0 : Hid (WSt w (wr.alloc (.cells e.row.toArray 80)) wb B (hs ++ entsB (es.take k)) S S3) := HW.out.kept ((Kept.refl _ _).alloc _)
      have HXn : Hid (∀ x, x ∈ S3 → x < wr.heap.size) := fun x hx => (HW.out.at'.lt x hx).2
      have HXS : Hid (wr.heap.size < (wr.alloc (.cells e.row.toArray 80)).heap.size) := by
        have : wr.heap.size < (wr.alloc (.cells e.row.toArray 80)).heap.size := by rw [World.size_alloc]; omega
        exact this
      have HEB : Hid (hs ++ entsB (es.take (k + 1)) = hs ++ entsB (es.take k) ++ fixedB e.mode 1 ++ varB e.name.length ++ e.name ++ e.id) := by
        rw [entsB_succ he]
        unfold entB
        have : hs ++ (entsB (es.take k) ++ (fixedB e.mode 1 ++ (varB e.name.length ++ e.name) ++ e.id)) = hs ++ entsB (es.take k) ++ fixedB e.mode 1 ++ varB e.name.length ++ e.name ++ e.id := by simp only [List.append_assoc]
        exact this
      have HLH := HH.out
      have HC1 : Hid (∀ W S', WSt w W wb B (hs ++ entsB (es.take k)) S S' → Calls Tryz.prog 116 #[.pointer (some ⟨wb, 0, none⟩), .int .u8 e.mode] W fun e' w' => e' = .returned (.tuple #[]) ∧ Wrote W w' wb B (hs ++ entsB (es.take k) ++ fixedB e.mode 1) S') := fun W S' q => WU8_any q.at' (Nat.le_trans hBw q.keep.size) _ hm0 hm1 (by rw [List.length_append]; omega)
      have HC2 : Hid (∀ W S', WSt w W wb B (hs ++ entsB (es.take k) ++ fixedB e.mode 1) S S' → Calls Tryz.prog 123 #[.pointer (some ⟨wb, 0, none⟩), .string (strOfNums e.name)] W fun e' w' => e' = .returned (.tuple #[]) ∧ Wrote W w' wb B (hs ++ entsB (es.take k) ++ fixedB e.mode 1 ++ varB e.name.length ++ e.name) S') := fun W S' q => writeText_any q.at' (Nat.le_trans hBw q.keep.size) _ hge.name.1 (by rw [List.length_append, List.length_append, fixedB_len]; omega)
      have HC3 : Hid (∀ W S', WSt w W wb B (hs ++ entsB (es.take k) ++ fixedB e.mode 1 ++ varB e.name.length ++ e.name) S S' → W.rangeAt wr.heap.size 2 (e.id.map (Value.int .u8)) → Calls Tryz.prog 117 #[.pointer (some ⟨wb, 0, none⟩), .slice (some ⟨wr.heap.size, 2, none⟩) 32 32] W fun e' w' => e' = .returned (.tuple #[]) ∧ Wrote W w' wb B (hs ++ entsB (es.take k) ++ fixedB e.mode 1 ++ varB e.name.length ++ e.name ++ e.id) S') := fun W S' q hr => by
        have hb := range_bytes hr
        rw [hge.id.1] at hb
        exact WRaw_any q.at' (Nat.le_trans hBw q.keep.size) _ _ hb hge.id.2 (by rw [List.length_append, List.length_append, List.length_append, List.length_append, fixedB_len, hge.id.1]; omega)
      have hsl := fun W => slice_id wr.heap.size 2 W
      have hmw : IntKind.u8.wrap e.mode = e.mode := by rw [IntKind.wrap_u8]; omega
      clear hh hc he hge HLH hnl
      generalize hs ++ entsB (es.take k) = q0 at *
      generalize e.row = er at *
      generalize e.mode = md at *
      go_wp2_with (first
        | (refine wpList_load_mid (by rfl) 80 (.tmp 17) (by rfl) b (off + k * 34) (by rfl) er _ hr hun rfl hse ?_)
        | (refine wpList_store_new (by rfl) 80 (.tmp 5) (.tmp 18) (by rfl) wr _ er.toArray (by rfl) (by rfl) hsa (by rw [h34]; rfl) h1 ?_)
        | (go_at_call 116; refine (HC1.out _ _ HX0.out).mono ?_; rintro e' w5 ⟨rfl, hw5⟩
           obtain ⟨S5, hs5, hk5, hn5⟩ := HX0.out.next hw5
           have y1 := hk5.cell x1 (fun hx => Nat.lt_irrefl _ (HXn.out _ hx))
           have y2 := range_kept x2 hk5 (fun hx => Nat.lt_irrefl _ (HXn.out _ hx))
           have HX5 : Hid _ := hs5
           have HN5 : Hid (wr.heap.size ∉ S5) := fun hx => by
             rcases hn5 _ hx with h | h
             · exact Nat.lt_irrefl _ (HXn.out _ h)
             · have := HXS.out; omega
           clear hs5 hw5 hk5 hn5)
        | (go_at_call 123; refine (HC2.out _ _ HX5.out).mono ?_; rintro e' w6 ⟨rfl, hw6⟩
           obtain ⟨S6, hs6, hk6, _⟩ := HX5.out.next hw6
           have z2 := range_kept y2 hk6 HN5.out
           have HX6 : Hid _ := hs6
           clear hs6 hw6 hk6)
        | (go_at_call 117; refine (HC3.out _ _ HX6.out z2).mono ?_; rintro e' w7 ⟨rfl, hw7⟩
           obtain ⟨S7, hs7, _, _⟩ := HX6.out.next hw7
           have HX7 : Hid _ := hs7
           clear hs7 hw7))
      go_roundw
      case rel => exact ⟨k + 1, by omega, by go_num, S7, by rw [HEB.out]; exact HX7⟩
      case measure => simp [intOf]; omega
    · obtain rfl : k = es.length := by omega
      have HF : Hid (Wrote w wr wb B (zs ++ encT es) S) := by
        have h := HW.out.wrote
        rw [List.take_length, HA.out, List.append_assoc, ← HE.out] at h
        exact h
      clear HW
      go_wp2
      go_end0
      exact ⟨rfl, HF.out⟩
end Go.Proofs.YtmambfdfkobjgaaGreatDoor
