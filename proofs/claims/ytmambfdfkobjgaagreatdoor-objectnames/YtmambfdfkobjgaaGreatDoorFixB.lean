/-
  WALKS: the methods of a Reader: End, U64, U8, for every Reader.
  WALKS: code.New and the methods of a Writer, for every Writer.
  PLAIN: a number in so many bytes, the highest first, as it is written.
-/
import Derived.Test.YtmambfdfkobjgaaGreatDoorRdBy
import Derived.Test.YtmambfdfkobjgaaGreatDoorLookFixed
import Derived.Test.YtmambfdfkobjgaaGreatDoorPlain2
import Derived.Maps.AppendAt
import Derived.Laws.AppendOwnNone
import Derived.Test.YtmambfdfkobjgaaGreatDoorPlain
namespace Go.Proofs.YtmambfdfkobjgaaGreatDoor
open Go.RowKit

set_option maxHeartbeats 400000 in
theorem End_any {w : World} {r g : Nat} {xs : List Int} {pl f : Nat} (R : Rdr w r g xs pl f) (hf : f ≤ 4) : Calls Tryz.prog 49 #[.pointer (some ⟨r, 0, none⟩)] w fun e w' =>
    e = .returned (.int .i64 (if f ≠ 0 then errL f else if pl < xs.length then 13 else 0)) ∧ ∃ n, w' = w.drewN n := by
  obtain ⟨d0, d1, d2, d3, d4⟩ := R.facts
  have hleft := fun n => Left_any (R.kept (S := []) ((Kept.refl _ _).drewN n) (by simp) (by simp))
  have hleft0 := Left_any R
  have hle := R.le
  clear R
  by_cases h0 : f = 0
  · subst h0
    rw [if_neg (by decide)]
    by_cases h1 : pl < xs.length
    · rw [if_pos h1]
      go_enter Tryz.func49, Tryz.ntmps49
      go_wp2_with (go_at_call 45; refine hleft0.mono ?_; rintro e w1 ⟨rfl, n, rfl⟩)
      go_ret
      exact ⟨rfl, _, rfl⟩
    · rw [if_neg h1]
      go_enter Tryz.func49, Tryz.ntmps49
      go_wp2_with (go_at_call 45; refine hleft0.mono ?_; rintro e w1 ⟨rfl, n, rfl⟩)
      go_ret
      exact ⟨rfl, _, rfl⟩
  · rw [if_pos h0]
    have hf1 : 1 ≤ f := by omega
    clear h0
    go_enter Tryz.func49, Tryz.ntmps49
    go_wp2_with (go_at_call 76; refine (errno_any f _ hf).mono ?_; rintro e w1 ⟨rfl, rfl⟩)
    go_ret
    exact ⟨rfl, 0, rfl⟩

set_option maxHeartbeats 400000 in
theorem U64_any {w : World} {r g : Nat} {xs : List Int} {pl f : Nat} (R : Rdr w r g xs pl f) (y : Took) (hy : Hid (y = takeL xs pl f 0 8 0)) :
    Calls Tryz.prog 75 #[.pointer (some ⟨r, 0, none⟩)] w fun e w' => e = .returned (.int .u64 y.n) ∧ Rdr w' r g xs y.pl y.f ∧ Kept [r] w w' := by
  have hcall := take_any w r g xs pl f 0 8 0 R (by decide) (by decide) (by decide) y hy
  clear R hy
  go_enter Tryz.func75, Tryz.ntmps75
  go_wp2_with (go_at_call 71; refine hcall.mono ?_; rintro e w1 ⟨tv, rfl, hb, hr, hk⟩)
  go_ret
  exact ⟨rfl, hr, hk⟩

set_option maxHeartbeats 400000 in
theorem U8_any {w : World} {r g : Nat} {xs : List Int} {pl f : Nat} (R : Rdr w r g xs pl f) (y : Took) (hy : Hid (y = takeL xs pl f 0 1 0)) :
    Calls Tryz.prog 43 #[.pointer (some ⟨r, 0, none⟩)] w fun e w' => e = .returned (.int .u8 y.n) ∧ Rdr w' r g xs y.pl y.f ∧ Kept [r] w w' := by
  have hcall := take_any w r g xs pl f 0 1 0 R (by decide) (by decide) (by decide) y hy
  have hb := take_lt xs R.oct pl f 1
  have hb0 : 0 ≤ y.n := by rw [hy.out]; exact hb.1
  have hb1 : y.n < 256 := by rw [hy.out]; exact hb.2
  clear R hy hb
  go_enter Tryz.func43, Tryz.ntmps43
  go_wp2_with (go_at_call 71; refine hcall.mono ?_; rintro e w1 ⟨tv, rfl, hb, hr, hk⟩)
  go_ret
  exact ⟨rfl, hr, hk⟩

end Go.Proofs.YtmambfdfkobjgaaGreatDoor

namespace Go.Proofs.YtmambfdfkobjgaaGreatDoor
open Go.RowKit

/-- The Writer in block wb holds the bytes zs; S: all the memory that is its own; none of it lies below B. -/
def WAt (w : World) (wb B : Nat) (zs : List Int) (S : List Nat) : Prop :=
  ∃ ao cap, w.heap[wb]? = some (.cells #[.slice ao zs.length cap] 93 (0, 0)) ∧ w.ownsRow B 5 1 (.slice ao zs.length cap) zs.length (zs.map (Value.int .u8)) ∧
    S = wb :: (Value.slice ao zs.length cap).ownBlock.toList ∧ (Value.slice ao zs.length cap).ownBlock ≠ some wb ∧ Octs zs ∧ B ≤ wb

theorem own_shape {w : World} {B : Nat} {e : TypeId} {size n : Nat} {v : Value} {xs : List Value} (h : w.ownsRow B e size v n xs) : ∃ ao cap, v = .slice ao n cap := by
  rcases h.2 with ⟨rfl, rfl⟩ | ⟨g, cap, cur, rfl, _⟩
  · exact ⟨none, 0, rfl⟩
  · exact ⟨_, _, rfl⟩

theorem WAt.lt {w : World} {wb B : Nat} {zs : List Int} {S : List Nat} (h : WAt w wb B zs S) : ∀ x, x ∈ S → B ≤ x ∧ x < w.heap.size := by
  obtain ⟨ao, cap, hb, ho, rfl, _, _, hB⟩ := h
  intro x hx
  rcases List.mem_cons.1 hx with rfl | hx
  · exact ⟨hB, lt_of_block hb⟩
  · exact ho.lt x (by simpa using hx)

theorem WAt.kept {w w' : World} {wb B : Nat} {zs : List Int} {S T : List Nat} (h : WAt w wb B zs S) (k : Kept T w w') (hd : ∀ x, x ∈ S → x ∉ T) : WAt w' wb B zs S := by
  obtain ⟨ao, cap, hb, ho, rfl, hne, hoc, hB⟩ := h
  refine ⟨ao, cap, k.heap hb (hd wb (by simp)), ⟨ho.1, ?_⟩, rfl, hne, hoc, hB⟩
  rcases ho.2 with hn | ⟨g, cap', cur, hv, hg, hh, rest⟩
  · exact Or.inl hn
  · refine Or.inr ⟨g, cap', cur, hv, hg, k.heap hh (hd g ?_), rest⟩
    rw [hv]; simp [Value.ownBlock]

theorem WAt.bytes {w : World} {wb B : Nat} {zs : List Int} {S : List Nat} (h : WAt w wb B zs S) : ∃ ao cap, w.cell? ⟨wb, 0, none⟩ = some (.slice ao zs.length cap) ∧ BytesAt w (.slice ao zs.length cap) zs := by
  obtain ⟨ao, cap, hb, ho, rfl, hne, hoc, hB⟩ := h
  refine ⟨ao, cap, cell_of_one hb, ?_⟩
  rcases ho.2 with ⟨hv, hn⟩ | ⟨g, cap', cur, hv, hg, hh, hnc, hcm, hcs, htk⟩
  · obtain rfl : zs = [] := List.eq_nil_of_length_eq_zero hn
    rw [hv]; exact BytesAt.nil w
  · rw [hv]
    simp only [Value.slice.injEq] at hv
    obtain ⟨rfl, _, rfl⟩ := hv
    refine ⟨_, cap, rfl, hnc, fun e => (by simp at e), fun _ => ⟨g, 0, rfl, fun i u hu => ?_⟩⟩
    have hi : i < zs.length := (List.getElem?_eq_some_iff.1 hu).1
    rw [cell_of_row w g (0 + i) _ _ _ hh, Nat.zero_add, ← Array.getElem?_toList]
    have h2 : (cur.toList.take (zs.length * 1))[i]? = cur.toList[i]? := List.getElem?_take_of_lt (by omega)
    rw [← h2, htk]
    simp [hu]

set_option maxHeartbeats 400000 in
theorem New_any (w : World) (B : Nat) (hB : B ≤ w.heap.size) : Calls Tryz.prog 25 #[] w fun e w' => e = .returned (.pointer (some ⟨w.heap.size, 0, none⟩)) ∧ WAt w' w.heap.size B [] [w.heap.size] ∧ Kept [] w w' := by
  go_enter Tryz.func25, Tryz.ntmps25
  go_wp2
  go_ret
  exact ⟨rfl, ⟨none, 0, heap_alloc_new w _, World.ownsRow_nil _ _ _ _, rfl, by simp [Value.ownBlock], fun u hu => by simp at hu, hB⟩, (Kept.refl _ _).alloc _⟩

theorem WOut_any {w : World} {wb B : Nat} {zs : List Int} {S : List Nat} (h : WAt w wb B zs S) (hm : zs.length ≤ 140737488355328) : Calls Tryz.prog 27 #[.pointer (some ⟨wb, 0, none⟩)] w fun e w' =>
    e = .returned (.slice (some ⟨w.heap.size, 0, none⟩) zs.length zs.length) ∧ w'.heap[w.heap.size]? = some (.cells (zs.map (Value.int .u8)).toArray 5 (0, 0)) ∧ Kept [] w w' := by
  obtain ⟨ao, cap, hc, hb⟩ := h.bytes
  have hcall := copied_any _ zs w hb hm
  clear h hb
  go_enter Tryz.func27, Tryz.ntmps27
  go_wp2_with (go_at_call 41; refine hcall.mono ?_; rintro e w1 ⟨rfl, hg, hk⟩; have HG : Hid _ := hg; clear hg)
  go_ret
  exact ⟨rfl, HG.out, hk⟩

/-- What a Writer's call leaves: more bytes; its memory is its own; nothing else has turned. -/
def Wrote (w w' : World) (wb B : Nat) (zs : List Int) (S : List Nat) : Prop := ∃ S', WAt w' wb B zs S' ∧ Kept S w w' ∧ ∀ x, x ∈ S' → x ∈ S ∨ w.heap.size ≤ x

theorem Wrote.trans {w w1 w2 : World} {wb B : Nat} {us : List Int} {S S1 : List Nat} (k1 : Kept S w w1) (hS1 : ∀ x, x ∈ S1 → x ∈ S ∨ w.heap.size ≤ x) (h2 : Wrote w1 w2 wb B us S1) : Wrote w w2 wb B us S := by
  obtain ⟨S2, hw, k2, hs2⟩ := h2
  refine ⟨S2, hw, k1.trans k2 hS1, fun x hx => ?_⟩
  rcases hs2 x hx with h | h
  · exact hS1 x h
  · exact Or.inr (Nat.le_trans k1.size h)
theorem Wrote.refl {w : World} {wb B : Nat} {zs : List Int} {S : List Nat} (h : WAt w wb B zs S) : Wrote w w wb B zs S := ⟨S, h, Kept.refl _ _, fun _ hx => Or.inl hx⟩

/-- The world behind an append and the store of what it gave. -/
theorem wrote_of {w wa w1 : World} {wb B : Nat} {zs ys : List Int} {ao : Option Addr} {cap : Nat} {ao' : Option Addr} {cap' : Nat} (ka : Kept [] w wa) (hz : w.heap.size ≤ wa.heap.size)
    (hb : w.heap[wb]? = some (.cells #[.slice ao zs.length cap] 93 (0, 0)))
    (hne : (Value.slice ao zs.length cap).ownBlock ≠ some wb) (hoc : Octs zs) (hoy : Octs ys) (hB : B ≤ wb)
    (ho' : w1.ownsRow B 5 1 (.slice ao' (zs.length + ys.length) cap') (zs.length + ys.length) (zs.map (Value.int .u8) ++ ys.map (Value.int .u8))) (hgr : wa.grownBy w1 (Value.slice ao zs.length cap).ownBlock)
    (hat : (Value.slice ao' (zs.length + ys.length) cap').ownBlock = (Value.slice ao zs.length cap).ownBlock ∨ (Value.slice ao' (zs.length + ys.length) cap').ownBlock = some wa.heap.size) :
    Wrote w (w1.setCell ⟨wb, 0, none⟩ (.slice ao' (zs.length + ys.length) cap')) wb B (zs ++ ys) (wb :: (Value.slice ao zs.length cap).ownBlock.toList) := by
  have hlt := lt_of_block hb
  have hb1 : w1.heap[wb]? = some (.cells #[.slice ao zs.length cap] 93 (0, 0)) := (hgr.block wb (by omega) (Ne.symm hne)).trans (ka.heap hb (by simp))
  have hne' : (Value.slice ao' (zs.length + ys.length) cap').ownBlock ≠ some wb := by
    rcases hat with h | h
    · rw [h]; exact hne
    · rw [h]; simp; omega
  have hl : (zs ++ ys).length = zs.length + ys.length := List.length_append
  refine ⟨wb :: (Value.slice ao' (zs.length + ys.length) cap').ownBlock.toList, ⟨ao', cap', ?_, ?_, by rw [hl], by rw [hl]; exact hne', fun u hu => (List.mem_append.1 hu).elim (hoc u) (hoy u), hB⟩, ?_, ?_⟩
  · rw [hl]; exact one_setCell hb1
  · rw [hl, List.map_append]; exact ownsRow_setCell_other ho' hne' _
  · refine Kept.setCell ?_ (Or.inl (by simp)) _
    exact (ka.more (by simp)).grown hgr (fun k hk => Or.inl (by rw [hk]; simp))
  · intro x hx
    rcases List.mem_cons.1 hx with rfl | hx
    · exact Or.inl (by simp)
    · simp only [Option.mem_toList] at hx
      rcases hat with h | h
      · rw [h] at hx; exact Or.inl (by rw [hx]; simp)
      · rw [h] at hx; simp at hx; exact Or.inr (by omega)

set_option maxHeartbeats 1000000 in
theorem WRaw_any {w : World} {wb B : Nat} {zs : List Int} {S : List Nat} (h : WAt w wb B zs S) (hBw : B ≤ w.heap.size) (v : Value) (ys : List Int) (hv : BytesAt w v ys) (hoy : Octs ys) (hm : zs.length + ys.length ≤ 140737488355328) :
    Calls Tryz.prog 117 #[.pointer (some ⟨wb, 0, none⟩), v] w fun e w' => e = .returned (.tuple #[]) ∧ Wrote w w' wb B (zs ++ ys) S := by
  obtain ⟨ao, cap, hb, ho, rfl, hne, hoc, hB⟩ := h
  obtain ⟨i0, hi, hz0, hz1, hz2⟩ := info_parts Tryz.info_u8
  have hc := cell_of_one hb
  have hfr := free_of_one hb
  obtain ⟨so, sc, rfl, hsc, hsn, hcell⟩ := hv
  cases so with
  | none =>
    obtain rfl : ys = [] := by
      rcases ys with _ | ⟨y, ys⟩
      · rfl
      · obtain ⟨b, off, e, _⟩ := hcell (by simp); simp at e
    obtain rfl : sc = 0 := hsn rfl
    have hw : Wrote w (w.setCell ⟨wb, 0, none⟩ (.slice ao zs.length cap)) wb B (zs ++ []) (wb :: (Value.slice ao zs.length cap).ownBlock.toList) := by
      rw [List.append_nil]
      exact ⟨_, ⟨ao, cap, one_setCell hb, ownsRow_setCell_other ho hne _, rfl, hne, hoc, hB⟩, (Kept.refl _ _).setCell (Or.inl (by simp)) _, fun x hx => Or.inl hx⟩
    have HW : Hid (Wrote w (w.setCell ⟨wb, 0, none⟩ (.slice ao zs.length cap)) wb B (zs ++ []) (wb :: (Value.slice ao zs.length cap).ownBlock.toList)) := hw
    clear hw
    go_enter Tryz.func117, Tryz.ntmps117
    go_wp2_with (at_builtin; refine wpList_append_own_none rfl (.tmp 8) (.tmp 9) 28 rfl B 5 i0 1 Tryz.underlying28 hi _ _ _ rfl ho rfl ?_)
    go_end0
    exact ⟨rfl, by simpa using HW.out⟩
  | some sa =>
    have hnews : ∀ j u, (ys.map (Value.int .u8))[j]? = some u → w.cell? (sa.add j) = some u := by
      intro j u hu
      simp only [List.getElem?_map, Option.map_eq_some_iff] at hu
      obtain ⟨z, hz, rfl⟩ := hu
      obtain ⟨b, off, e, hh⟩ := hcell (by rintro rfl; simp at hz)
      simp only [Option.some.injEq] at e
      subst e
      rw [Addr.add_mid]
      exact hh j z hz
    obtain ⟨cs, hcs⟩ : ∃ cs, cs = ys.map (Value.int .u8) := ⟨_, rfl⟩
    have hcl : cs.length = ys.length * 1 := by rw [hcs]; simp
    have hco : ∀ u ∈ cs, u.oneCell' = true := by rw [hcs]; exact map_oneCell ys
    rw [← hcs] at hnews
    have HC : Hid (cs = ys.map (Value.int .u8)) := hcs
    clear hcs
    go_enter Tryz.func117, Tryz.ntmps117
    go_wp2_with (at_builtin; refine wpList_append_own_at _ rfl (.tmp 8) (.tmp 9) 28 rfl B 5 i0 (.int .u8 0) 1 1 Tryz.underlying28 hi hz0 hz1 hz2 rfl (by decide) (.slice ao zs.length cap) zs.length (zs.map (Value.int .u8)) rfl ho sa ys.length sc cs rfl hcl hnews hco (by unfold maxLen; omega) (by omega) hBw ?_; intro v' w1 ho' hgr hnil hat; obtain ⟨ao', cap', hv'⟩ := own_shape ho'; subst hv'; have hb1 : w1.heap[wb]? = some (.cells #[.slice ao zs.length cap] 93 (0, 0)) := (hgr.block wb (lt_of_block hb) (Ne.symm hne)).trans hb; have c1 := cell_of_one hb1; have f1 := free_of_one hb1; clear hb1 hnil)
    go_end0
    rw [HC.out] at ho'
    exact ⟨rfl, wrote_of (Kept.refl _ _) (Nat.le_refl _) hb hne hoc hoy hB ho' hgr hat⟩

end Go.Proofs.YtmambfdfkobjgaaGreatDoor

namespace Go.Proofs.YtmambfdfkobjgaaGreatDoor
open Go.RowKit

/-- A number in so many bytes, the highest first. -/
def fixedB (n : Int) (size : Nat) : List Int := (List.range size).map fun i => n / 256 ^ (size - 1 - i) % 256
theorem fixedB_len (n : Int) (size : Nat) : (fixedB n size).length = size := by simp [fixedB]
theorem fixedB_take (n : Int) (size k : Nat) (h : k < size) : (fixedB n size).take (k + 1) = (fixedB n size).take k ++ [n / 256 ^ (size - 1 - k) % 256] := by
  rw [List.take_succ_eq_append_getElem (by rw [fixedB_len]; exact h)]
  simp [fixedB]
theorem fixedB_octs (n : Int) (size : Nat) : Octs (fixedB n size) := by
  intro u hu
  simp only [fixedB, List.mem_map] at hu
  obtain ⟨i, _, rfl⟩ := hu
  omega

theorem byte_of (n : Int) (j : Nat) : IntKind.u8.wrap (n / 2 ^ (8 * (j : Int)).toNat) = n / 256 ^ j % 256 := by
  rw [show (8 * (j : Int)).toNat = 8 * j by omega, IntKind.wrap_u8', show (256 : Int) = 2 ^ 8 by decide, ← Int.pow_mul]

end Go.Proofs.YtmambfdfkobjgaaGreatDoor
