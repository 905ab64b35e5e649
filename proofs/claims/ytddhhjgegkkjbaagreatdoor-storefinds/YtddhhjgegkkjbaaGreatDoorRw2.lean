/-
  WALK: (*store.Store).rows gathers the store's rows (what is sorted behind that: Rw2).
  (*store.Store).rows: the store's rows, sorted by their ids.
-/
import Derived.Test.YtddhhjgegkkjbaaGreatDoorRw0
import Derived.Test.YtddhhjgegkkjbaaGreatDoorShelf
import Derived.Test.YtddhhjgegkkjbaaGreatDoorLk0
import Derived.Test.YtddhhjgegkkjbaaGreatDoorSk4
import Derived.Maps.RangeWalk
import Derived.Test.YtddhhjgegkkjbaaGreatDoorSg2
namespace Go.Proofs.YtddhhjgegkkjbaaGreatDoor
open Go.RowKit Go.WideMaps

/-- The rows of a store: one for each key. -/
structure RowsOf (D : DataW Unit) (L : List RowE) : Prop where
  mem : ∀ r, r ∈ L → Maps.has D (idKey r.xs) = true ∧ ∃ g, r.p = some ⟨g, 0, none⟩ ∧ D.atKey (idKey r.xs) .nil = slD g r.l r.c
  all : ∀ kl, Maps.has D kl = true → ∃ r, r ∈ L ∧ kl = idKey r.xs
  apart : L.Pairwise (fun r r' => r.xs ≠ r'.xs)
theorem RowsOf.perm {D : DataW Unit} {L L' : List RowE} (h : RowsOf D L) (hp : L'.Perm L) : RowsOf D L' :=
  ⟨fun r hr => h.mem r (hp.mem_iff.1 hr), fun kl hk => by
    obtain ⟨r, hr, e⟩ := h.all kl hk
    exact ⟨r, hp.mem_iff.2 hr, e⟩, (hp.pairwise_iff (fun {_ _} hne => Ne.symm hne)).2 h.apart⟩
/-- While they are gathered. -/
structure GathR (w : World) (b r n : Nat) (D : DataW Unit) (g cap : Nat) (acc : List RowE) (left : Lit → Bool) (cnt : Nat) (wr : World) : Prop where
  rng : wr.ranges Tryz.prog 36 slR b r n D left cnt
  own : wr.ownsRow w.heap.size 68 33 (.slice (some ⟨g, 0, none⟩) acc.length cap) acc.length (acc.map encRow).flatten
  num : acc.length + cnt ≤ Maps.size D
  mem : ∀ x, x ∈ acc → Maps.has D (idKey x.xs) = true ∧ left (idKey x.xs) = false ∧ ∃ g, x.p = some ⟨g, 0, none⟩ ∧ D.atKey (idKey x.xs) .nil = slD g x.l x.c
  all : ∀ kl, Maps.has D kl = true → left kl = true ∨ ∃ x, x ∈ acc ∧ kl = idKey x.xs
  there : ∀ kl, left kl = true → Maps.has D kl = true
  apart : acc.Pairwise (fun r r' => r.xs ≠ r'.xs)
  keep : Kept [] w wr
theorem Tryz.rowInfo : (Tryz.prog.info? 68).map (fun i => (i.zero, i.size, i.bytes)) = some (some (.agg ((zero32.map (Value.int .u8)) ++ [Value.slice none 0 0]).toArray), 33, 56) := by kernel_rfl
theorem Tryz.builtRow (parts : List (Nat × Value)) : Tryz.prog.built 68 parts = Instr.fill (fun i => (#[(0, 32), (32, 1)] : Array (Nat × Nat))[i]?) ((zero32.map (Value.int .u8)) ++ [Value.slice none 0 0]).toArray parts := by kernel_rfl
theorem Tryz.rowZero : (Value.agg ((zero32.map (Value.int .u8)) ++ [Value.slice none 0 0]).toArray).cells.size = 33 := by kernel_rfl
theorem built_row (x : RowE) : Tryz.prog.built 68 [(0, .agg (idC x.xs)), (1, .slice x.p x.l x.c)] = some (encRow x).toArray := by
  have hi := x.good.1
  have hz : zero32.length = 32 := by simp [zero32]
  rw [Tryz.builtRow, fill_step (fun i => (#[(0, 32), (32, 1)] : Array (Nat × Nat))[i]?) _ 0 (.agg (idC x.xs)) _ 0 32 rfl (idC_size hi) (by simp [hz])]
  have e : (Value.agg (idC x.xs)).cells.toList = x.xs.map (Value.int .u8) := rfl
  rw [e, setL_put _ _ _ (by simp [hi, hz]), fill_step (fun i => (#[(0, 32), (32, 1)] : Array (Nat × Nat))[i]?) _ 1 (.slice x.p x.l x.c) _ 32 1 rfl rfl (by rw [List.size_toArray, putL_len (by simp [hi, hz])]; simp [hz])]
  have e2 : (Value.slice x.p x.l x.c).cells.toList = [.slice x.p x.l x.c] := rfl
  rw [e2, setL_put _ _ _ (by rw [putL_len (by simp [hi, hz])]; simp [hz])]
  show some _ = some _
  congr 2
  unfold putL encRow
  simp [zero32, hi]
theorem wpList_slice_k {ops : Array Oper} {rest : List Oper} {o : Oper} {a : Act} {w : World} {Q : Exit → Act → World → Prop} (hgd : o.guard = none) (t e : TypeId) (x : Operand) (ho : o.op = .buildSlice t 1 #[(0, x)]) (us : List Value) (hx : a.eval x = .agg us.toArray)
    (hr : ∀ W : World, (Instr.buildSlice t 1 #[(0, .agg us.toArray)]).run Tryz.prog W = .ok (.slice (some ⟨W.heap.size, 0, none⟩) 1 1) (W.alloc (.cells us.toArray e)))
    (h : wpList Tryz.prog ops Q rest (a.put o.dst (.slice (some ⟨w.heap.size, 0, none⟩) 1 1)) (w.alloc (.cells us.toArray e))) : wpList Tryz.prog ops Q (o :: rest) a w := by
  refine wpList_plain hgd fun K hK => ?_
  unfold Oper.wp execOp
  simp [ho, hx, hr, Result.andThen]
  exact hK _ _ h
theorem lt_of_own {w : World} {B : Nat} {e : TypeId} {k g n cap : Nat} {xs : List Value} (h : w.ownsRow B e k (.slice (some ⟨g, 0, none⟩) n cap) n xs) : g < w.heap.size := by
  obtain ⟨_, ⟨hv, _⟩ | ⟨g', _, _, hv, _, hc, _⟩⟩ := h
  · cases hv
  · injection hv with hv _ _
    injection hv with hv
    injection hv with hv _ _
    rw [hv]
    exact lt_of_block hc
theorem own_base {w : World} {B : Nat} {e : TypeId} {k g m n cap : Nat} {xs : List Value} (h : w.ownsRow B e k (.slice (some ⟨g, 0, none⟩) m cap) n xs) : B ≤ g := by
  obtain ⟨_, ⟨hv, _⟩ | ⟨g', _, _, hv, hB, _⟩⟩ := h
  · cases hv
  · injection hv with hv _ _
    injection hv with hv
    injection hv with hv _ _
    rw [hv]
    exact hB
theorem own_succ {w : World} {B : Nat} {e : TypeId} {k n : Nat} {v : Value} {xs : List Value} (h : w.ownsRow B e k v (n + 1) xs) : ∃ g cap, v = .slice (some ⟨g, 0, none⟩) (n + 1) cap := by
  obtain ⟨_, ⟨_, h0⟩ | ⟨g, cap, _, hv, _⟩⟩ := h
  · cases h0
  · exact ⟨g, cap, hv⟩
theorem slR_shape (v : Value) (y : DataW Unit × List MemPlace) (h : slR v = some y) : ∃ c : Option Addr × Nat × Nat, v = .slice c.1 c.2.1 c.2.2 := by
  obtain ⟨ao, m, c, rfl⟩ := slR_form h
  exact ⟨(ao, m, c), rfl⟩
theorem slR_data {p : Option Addr} {l c : Nat} {y : DataW Unit × List MemPlace} {g m cc : Nat} (h : slR (.slice p l c) = some y) (he : y.1 = slD g m cc) : p = some ⟨g, 0, none⟩ ∧ slD g m cc = slD g l c := by
  obtain ⟨d, ps⟩ := y
  simp only at he
  subst he
  have h1 := slR_inv h
  injection h1 with h1 h2 h3
  exact ⟨h1, by rw [h2, h3]⟩
set_option maxRecDepth 100000 in
set_option maxHeartbeats 4000000 in
theorem rows_any {w : World} {s b n : Nat} {D : DataW Unit} (h : St w s b n D) (hn : n ≤ 1000000) {R : Ending → World → Prop}
    (hsort : ∀ (W : World) (g cap : Nat) (L : List RowE), RowsOf D L → Kept [] w W → w.heap.size ≤ g → W.ownsRow w.heap.size 68 33 (.slice (some ⟨g, 0, none⟩) L.length cap) L.length (L.map encRow).flatten → L.length ≤ 1000000 →
      Calls Tryz.prog 36 #[.slice (some ⟨g, 0, none⟩) L.length cap, .func (.func 37) #[] #[]] W fun e w' => e = .returned (.tuple #[]) ∧ R (.returned (.slice (some ⟨g, 0, none⟩) L.length cap)) w') :
    Calls Tryz.prog 25 #[.pointer (some ⟨s, 0, none⟩)] w R := by
  have hlen := Len_st h
  have HB : Hid (∀ W, Kept [] w W → W.cell? ⟨s, 0, none⟩ = some (.map (some b))) := fun W k => by rw [cell_of_row _ _ _ _ _ _ (k.heap h.blk (by simp))]; rfl
  have HO : Hid (∀ W, Kept [] w W → W.ownsMap Tryz.prog 36 slR b n D) := fun W k => (h.on k).own
  have HLI : Hid (∀ kl, Maps.has D kl = true → ∃ g m c, D.atKey kl .nil = slD g m c) := fun kl hk => by
    obtain ⟨g, c, xs, h1, _⟩ := h.lists kl hk
    exact ⟨g, _, c, h1⟩
  have hsn : Maps.size D ≤ n := h.size
  have hmx : Maps.size D ≤ 1000000 := by omega
  have HS : Hid (∀ (W : World) (g cap : Nat) (L : List RowE), RowsOf D L → Kept [] w W → w.heap.size ≤ g → W.ownsRow w.heap.size 68 33 (.slice (some ⟨g, 0, none⟩) L.length cap) L.length (L.map encRow).flatten → L.length ≤ 1000000 →
      Calls Tryz.prog 36 #[.slice (some ⟨g, 0, none⟩) L.length cap, .func (.func 37) #[] #[]] W fun e w' => e = .returned (.tuple #[]) ∧ R (.returned (.slice (some ⟨g, 0, none⟩) L.length cap)) w') := hsort
  obtain ⟨i0, hi, hz0, hz1, hz2⟩ := info_parts Tryz.rowInfo
  have hmk : i0.bytes * Maps.size D ≤ 281474976710656 := by rw [hz2]; omega
  have hml : Maps.size D ≤ maxLen := by unfold maxLen; omega
  have hui := Tryz.underlying36
  have HBL : Hid (b < w.heap.size) := h.lt.2
  clear hsort h hn
  go_enter Tryz.func25, Tryz.ntmps25
  go_wp2_with fail
  go_at_call 22
  refine hlen.mono ?_
  rintro e wn ⟨rfl, hwn⟩
  subst wn
  clear hlen
  go_wp2_with (first
    | (refine wpList_make_own _ (by rfl) _ _ 65 (by rfl) w.heap.size 68 i0 _ 33 Tryz.underlying65 hi hz0 hz1 _ _ _ (Maps.size D) (by rfl) (by rfl) rfl hmk hml (Nat.le_refl _) ?_
       intro w1 hown1 hgr1
       have HK1 : Hid (Kept [] w w1) := (Kept.refl _ _).grown hgr1 (fun _ e => by cases e)
       have HOW1 : Hid (w1.ownsRow w.heap.size 68 33 (.slice (some ⟨w.heap.size, 0, none⟩) 0 (Maps.size D)) 0 []) := hown1
       have hcell := HB.out w1 HK1.out
       clear hown1 hgr1)
    | (at_range; refine wpList_range_own _ (by rfl) _ 69 (by rfl) 36 37 Tryz.keyId Tryz.underlying69 slR b n D (by rfl) (HO.out w1 HK1.out) ?_; intro w2 hrg2 hg2 hs2))
  go_frame
  have k12 : Kept [] w1 w2 := (Kept.refl _ _).grown hg2 (fun _ e => by cases e)
  have HG2 : Hid (GathR w b w1.heap.size n D w.heap.size (Maps.size D) [] (Maps.has D) (Maps.size D) w2) := ⟨hrg2, ownsK_on HOW1.out k12 (fun _ _ => by simp), by simp, fun x hx => by (cases hx), fun _ hk => Or.inl hk, fun _ hk => hk, List.Pairwise.nil, HK1.out.then k12⟩
  have HRW : Hid (w.heap.size ≤ w1.heap.size) := HK1.out.size
  clear hrg2 hg2 hs2 k12 HOW1 hcell
  generalize w1.heap.size = r at *
  go_loopw [3, 4, 5] (fun s3 _ _ wr => ∃ (g cap : Nat) (acc : List RowE), s3 = .slice (some ⟨g, 0, none⟩) acc.length cap ∧ Hid (w.heap.size ≤ g ∧ ∃ left cnt, GathR w b r n D g cap acc left cnt wr)) (fun _ _ _ wr => wr.rangeLeft b r)
  case atStart => exact ⟨w.heap.size, Maps.size D, [], rfl, Nat.le_refl _, _, _, HG2.out⟩
  case round =>
    obtain ⟨g, cap, acc, rfl, HH⟩ := hrel
    obtain ⟨hg, left, cnt, hG⟩ := HH.out
    have HG : Hid (GathR w b r n D g cap acc left cnt wr) := hG
    have hrg := hG.rng
    clear hG
    go_wp2_with (first
      | (at_next; refine wpList_next_ranges _ (by rfl) _ (by rfl) 36 Tryz.keyId slR (fun x : { id : List Int // GoodID id } => Value.agg (idC x.1)) (fun c : Option Addr × Nat × Nat => Value.slice c.1 c.2.1 c.2.2) (fun key kl hk => by obtain ⟨id, hid, e, _⟩ := key_id_inv hk; exact ⟨⟨id, hid⟩, e⟩) slR_shape b r n _ _ _ (by rfl) hrg ?_ ?_))
    · intro hc0 hl0
      have HF : Hid (RowsOf D acc) := ⟨fun x hx => ⟨(HG.out.mem x hx).1, (HG.out.mem x hx).2.2⟩, fun kl hk => (HG.out.all kl hk).elim (fun e => by rw [hl0] at e; cases e) id, HG.out.apart⟩
      have hln : acc.length ≤ 1000000 := by have := HG.out.num; omega
      have hcall := HS.out wr g cap acc HF.out HG.out.keep hg HG.out.own hln
      clear hrg hc0 hl0 HS
      go_wp2_with fail
      go_at_call 36
      refine hcall.mono ?_
      rintro e w9 ⟨rfl, hR⟩
      clear hcall
      go_wp2
      exact hR
    · intro id hid p l cc kl yd yp w3 cnt3 hkey hlk hv hat hrg3 hlt3 hg3 hs3 hen
      have hkl : kl = idKey id := by
        have h1 := key_id hid
        rw [hkey] at h1
        injection h1
      subst hkl
      obtain ⟨x, hx⟩ : ∃ x : RowE, x = ⟨id, p, l, cc, hid⟩ := ⟨_, rfl⟩
      have hxx : x.xs = id := by rw [hx]
      have hxv : Value.slice x.p x.l x.c = .slice p l cc := by rw [hx]
      have HX : Hid (x.xs = id ∧ Value.slice x.p x.l x.c = .slice p l cc) := ⟨hxx, hxv⟩
      have hG := HG.out
      obtain ⟨hB0, hgr⟩ : b < w.heap.size ∧ g ≠ r := by
        refine ⟨HBL.out, fun e => ?_⟩
        obtain ⟨_, _, _, _, _, _, _, _, _, hr, _⟩ := hG.rng
        obtain ⟨_, ⟨hv, _⟩ | ⟨g', _, _, hv, _, hc, _⟩⟩ := hG.own
        · cases hv
        · injection hv with hv _ _
          injection hv with hv
          injection hv with hv _ _
          rw [← hv, e, hr] at hc
          cases hc
      have hgt := lt_of_own hG.own
      have k3 : Kept [r] wr w3 := (Kept.refl _ _).grown hg3 (fun k e => Or.inl (by simpa using e.symm))
      have hrw : w.heap.size ≤ r := HRW.out
      have own3 := ownsK_on hG.own k3 (fun k hk => by
        have : k = g := by simpa [Value.ownBlock] using hk.symm
        rw [this]
        simpa using hgr)
      have K3 : Kept [] w w3 := kept_newP hG.keep k3 hrw
      have hnum := hG.num
      obtain ⟨gl, ml, cl, hdat⟩ := HLI.out _ (hG.there _ hlk)
      obtain ⟨hp, hsl⟩ := slR_data hv ((hat .nil).symm.trans hdat)
      have HNEW : Hid (∀ g' cap' W, W.ranges Tryz.prog 36 slR b r n D (fun z => left z && !z.sameKey (idKey id)) cnt3 → W.ownsRow w.heap.size 68 33 (.slice (some ⟨g', 0, none⟩) (acc ++ [x]).length cap') (acc ++ [x]).length ((acc ++ [x]).map encRow).flatten → Kept [] w W → GathR w b r n D g' cap' (acc ++ [x]) (fun z => left z && !z.sameKey (idKey id)) cnt3 W) := fun g' cap' W q1 q2 q3 => by
        refine ⟨q1, q2, by rw [List.length_append, List.length_singleton]; omega, fun y hy => ?_, fun kl hk => ?_, fun kl hk => ?_, ?_, q3⟩
        · rcases List.mem_append.1 hy with hy | hy
          · obtain ⟨m1, m2, m3⟩ := hG.mem y hy
            exact ⟨m1, by rw [m2]; rfl, m3⟩
          · rw [List.mem_singleton.1 hy, hxx]
            refine ⟨hG.there _ hlk, by rw [WideAt.sameKey_self (idKey_lit id)]; simp, gl, ?_⟩
            rw [hx]
            exact ⟨hp, hdat.trans hsl⟩
        · by_cases e : kl = idKey id
          · exact Or.inr ⟨x, by simp, by rw [hxx]; exact e⟩
          · rcases hG.all kl hk with h1 | ⟨y, hy, h1⟩
            · refine Or.inl ?_
              rw [h1, Maps.sameKey_ne e]
              rfl
            · exact Or.inr ⟨y, by simp [hy], h1⟩
        · simp only [Bool.and_eq_true] at hk
          exact hG.there kl hk.1
        · rw [List.pairwise_append]
          refine ⟨hG.apart, List.pairwise_singleton _ _, fun y hy z hz e => ?_⟩
          rw [List.mem_singleton.1 hz, hxx] at e
          have h1 := (hG.mem y hy).2.1
          rw [e, hlk] at h1
          cases h1
      have HCNT : Hid (cnt3 < cnt ∧ wr.rangeLeft b r = cnt) := ⟨hlt3, hG.rng.left_eq⟩
      obtain ⟨w4, hw4⟩ : ∃ w4, w4 = w3.alloc (.cells (idC id) 36) := ⟨_, rfl⟩
      have HW4 : Hid (w4 = w3.alloc (.cells (idC id) 36)) := hw4
      have k34 : Kept [] w3 w4 := by rw [hw4]; exact (Kept.refl _ _).alloc _
      have HI4 : Hid (w4.heap[w3.heap.size]? = some (.cells (idC id) 36 (0, 0))) := by rw [hw4]; exact heap_alloc_new w3 _
      have k45 : Kept [] w4 (w4.alloc (.cells (encRow x).toArray 68)) := (Kept.refl _ _).alloc _
      have own5 : (w4.alloc (.cells (encRow x).toArray 68)).ownsRow w.heap.size 68 33 (.slice (some ⟨g, 0, none⟩) acc.length cap) acc.length (acc.map encRow).flatten := ownsK_on (ownsK_on own3 k34 (fun _ _ => by simp)) k45 (fun _ _ => by simp)
      have rng5 : (w4.alloc (.cells (encRow x).toArray 68)).rangeAt w4.heap.size 0 (encRow x) := row_range (heap_alloc_new w4 _)
      have HK5 : Hid (Kept [] w3 (w4.alloc (.cells (encRow x).toArray 68)) ∧ Kept [] w w3 ∧ w.heap.size ≤ g) := ⟨k34.then k45, K3, hg⟩
      have hk6 : acc.length ≤ 1000000 := by omega
      have hB5 : w.heap.size ≤ (w4.alloc (.cells (encRow x).toArray 68)).heap.size := by
        have := K3.size
        have := (k34.then k45).size
        omega
      have HRG : Hid (w3.ranges Tryz.prog 36 slR b r n D (fun z => left z && !z.sameKey (idKey id)) cnt3) := hrg3
      have HNE : Hid (b ≠ g ∧ r ≠ g) := ⟨by omega, fun e => hgr e.symm⟩
      have hbl := built_row x
      rw [hxx, hxv] at hbl
      have hbs := fun W => run_build_k (t := 65) Tryz.underlying65 Tryz.rowInfo (by decide) (by decide) (encRow x) (encRow_len x) W
      have hsz : (Tryz.prog.info? 36).map (·.size) = some (idC id).size := by rw [idC_size hid.1]; exact Tryz.infoID
      have hzz : (idC zid).size = (idC id).size := by rw [idC_size hid.1]; rfl
      have hone : (idC id).all (·.oneCell') = true := all_oneCell_toArray (map_oneCell _)
      have hul := encRow_len x
      have hrz := Tryz.rowZero
      have huo := encRow_one x
      clear hkey hlk hv hat hrg3 hlt3 hg3 hs3 HH HG hrg hG k3 own3 K3 hnum hdat hp hsl hw4 k34 k45 hx hxx hxv hrw hgt hgr HS HO HLI
      generalize idC id = ic at *
      generalize hE : encRow x = us at *
      go_wp2_with (first
        | (refine wpList_store_newS (by rfl) 36 (.tmp 4) (.tmp 17) (by rfl) w3 _ ic (by rfl) (by rfl) hsz hzz hone ?_; rw [← HW4.out])
        | (refine wpList_load_row (by rfl) 36 (.tmp 4) (by rfl) w3.heap.size (by rfl) 36 ic (0, 0) _ HI4.out hui rfl hsz ?_)
        | (refine wpList_build_some (by rfl) 68 _ (by rfl) us.toArray (by simp; exact hbl) ?_)
        | (refine wpList_slice_k (by rfl) 65 68 (.tmp 22) (by rfl) us (by rfl) hbs ?_)
        | (at_builtin; refine wpList_append_k (by rfl) (.tmp 19) (.tmp 23) 65 68 _ 33 56 Tryz.underlying65 Tryz.rowInfo hrz (by decide) (by rfl) (by rfl) own5 (by rfl) hul rng5 huo hk6 (by decide) hB5 ?_
           intro v6 w6 own6 k6 hb6
           have HOWN : Hid (w6.ownsRow w.heap.size 68 33 v6 (acc.length + 1) ((acc.map encRow).flatten ++ us)) := own6
           have HK6 : Hid (Kept [g] (w4.alloc (.cells us.toArray 68)) w6) := k6
           obtain ⟨g6, cap6, rfl⟩ := own_succ own6
           clear own6 k6 hb6))
      have hk36 : Kept [g] w3 w6 := (HK5.out.1.more (by simp)).then'' HK6.out
      have hrg6 : w6.ranges Tryz.prog 36 slR b r n D (fun z => left z && !z.sameKey (idKey id)) cnt3 := HRG.out.kept (row := some g) ⟨hk36.os, hk36.tape, hk36.output, hk36.size, fun i hi hne => hk36.block i hi (by simp; intro e; exact hne (by rw [e]))⟩ (by simp; exact HNE.out.1) (by simp; exact HNE.out.2)
      have HFIN : Hid (w.heap.size ≤ g6 ∧ ∃ left cnt, GathR w b r n D g6 cap6 (acc ++ [x]) left cnt w6) := by
        refine ⟨own_base HOWN.out, _, _, HNEW.out g6 cap6 w6 hrg6 ?_ (kept_newP HK5.out.2.1 hk36 HK5.out.2.2)⟩
        rw [List.length_append, List.length_singleton, List.map_append, List.flatten_append, List.map_singleton, List.flatten_singleton, hE]
        exact HOWN.out
      have HLFT : Hid (w6.rangeLeft b r < wr.rangeLeft b r) := by
        show w6.rangeLeft b r < wr.rangeLeft b r
        rw [hrg6.left_eq, HCNT.out.2]
        exact HCNT.out.1
      clear hk36 hrg6 HOWN HNEW HK5 HK6
      go_roundw
      case rel => exact ⟨g6, cap6, acc ++ [x], by rw [List.length_append, List.length_singleton], HFIN⟩
      case measure => exact HLFT.out
end Go.Proofs.YtddhhjgegkkjbaaGreatDoor

namespace Go.Proofs.YtddhhjgegkkjbaaGreatDoor
open Go.RowKit Go.WideMaps Go.Sort

/-- The rows as they lie in a block of their own. -/
structure RowsB (w : World) (g : Nat) (L : List RowE) : Prop where
  tag : ∃ c, w.heap[g]? = some (.cells c 68 (0, 0))
  cells : ∀ i r, L[i]? = some r → w.rangeAt g (i * 33) (encRow r)
theorem RowsB.same {w w' : World} {g : Nat} {L : List RowE} (h : RowsB w g L) (he : w'.heap[g]? = w.heap[g]?) : RowsB w' g L :=
  ⟨by rw [he]; exact h.tag, fun i r hr j v hv => (World.cell?_of_block (w := w) (a := ⟨g, i * 33 + j, none⟩) he).trans (h.cells i r hr j v hv)⟩
/-- Each id is told once, the least first. -/
def SortedIds (L : List (List Int)) : Prop := L.Pairwise (fun a b => cmpB a b < 0)
theorem Rows_any {w : World} {s b n : Nat} {D : DataW Unit} (h : St w s b n D) (hn : n ≤ 1000000) :
    Calls Tryz.prog 25 #[.pointer (some ⟨s, 0, none⟩)] w fun e w' => ∃ g cap L, e = .returned (.slice (some ⟨g, 0, none⟩) L.length cap) ∧ L.length ≤ 1000000 ∧ RowsB w' g L ∧ RowsOf D L ∧ SortedIds (L.map (·.xs)) ∧ w.heap.size ≤ g ∧ Kept [] w w' := by
  refine rows_any h hn fun W g cap L hL kW hg hown hlen => ?_
  obtain ⟨hH, c, hc⟩ := holdsK_own encRow_len (by decide) hown
  have hs := sortRows_any g 0 cap L.toArray W hH (lt_of_block hc) (by rw [List.size_toArray]; omega)
  rw [List.size_toArray] at hs
  refine hs.mono ?_
  rintro e w' ⟨rfl, d', m, os, hp, hso, rfl⟩
  refine ⟨rfl, g, cap, d'.toList, ?_, ?_, ?_, ?_, ?_, hg, ?_⟩
  · have : d'.toList.length = L.length := by have := hp.1; simpa using this
    rw [this]
  · have : d'.toList.length = L.length := by have := hp.1; simpa using this
    omega
  · obtain ⟨c', hc'⟩ := sortK_heap encRow 33 W g m d' os hc
    exact ⟨⟨c', hc'⟩, rows_of_holdsK encRow_len (holdsK_sortWorldK_c (enc := encRow) (k := 33) (w := W) (blk := g) (off := 0) L.toArray d' m os hH (lt_of_block hc) hp.1)⟩
  · exact hL.perm (by have := perm_of_in (d := L.toArray) (d' := d') (by rw [List.size_toArray]; exact hp); simpa using this)
  · have hperm : d'.toList.Perm L := by have := perm_of_in (d := L.toArray) (d' := d') (by rw [List.size_toArray]; exact hp); simpa using this
    have h1 := sorted_of_in (d := d') (n := L.length) (by have := hp.1; simpa using this.symm) hso
    have h2 := (hL.perm hperm).apart
    unfold SortedIds
    rw [List.pairwise_map]
    refine (h1.and h2).imp fun {a c} hh => ?_
    obtain ⟨q1, q2⟩ := hh
    simp only [ltOf, decide_eq_false_iff_not] at q1
    rcases cmpB_ge q1 with q | q
    · exact q
    · exact absurd q.symm q2
  · exact kept_newP kW (sortK_kept encRow 33 W g m d' os) hg
end Go.Proofs.YtddhhjgegkkjbaaGreatDoor
