/-
  WALKS: the methods of a Reader: End, U64, U8, for every Reader.
  WALKS: code.New and the methods of a Writer, for every Writer.
  PLAIN: a number in so many bytes, the highest first, as it is written.
  WALK: math/bits.Len64: the number of binary digits, for every number of 64 bits.
-/
import Derived.Test.YtnfbiemmdaenpaaDoorRdBy
import Derived.Test.YtnfbiemmdaenpaaDoorPlain2
import Derived.Maps.AppendAt
import Derived.Laws.AppendOwnNone
import Derived.Test.YtnfbiemmdaenpaaDoorPlain
import Derived.Test.YtnfbiemmdaenpaaDoorChecked
import Derived.WalkKit
import Derived.WalkSpells
import Derived.Lib.Walk
import Derived.Lib.BitFns
import Derived.Deep.Light
namespace Go.Proofs.YtnfbiemmdaenpaaDoor
open Go.RowKit

set_option maxHeartbeats 400000 in
theorem End_any {w : World} {r g : Nat} {xs : List Int} {pl f : Nat} (R : Rdr w r g xs pl f) (hf : f ≤ 4) : Calls Tryd.prog 48 #[.pointer (some ⟨r, 0, none⟩)] w fun e w' =>
    e = .returned (.int .i64 (if f ≠ 0 then errL f else if pl < xs.length then 13 else 0)) ∧ ∃ n, w' = w.drewN n := by
  obtain ⟨d0, d1, d2, d3, d4⟩ := R.facts
  have hleft := fun n => Left_any (R.kept (S := []) ((Kept.refl _ _).drewN n) (by simp) (by simp))
  have hleft0 := Left_any R
  have hle := R.le
  clear R
  by_cases h0 : f = 0
  · subst h0
    rw [if_neg (by decide)]
    by_cases h1 : pl < xs.length
    · rw [if_pos h1]
      go_enter Tryd.func48, Tryd.ntmps48
      go_wp2_with (go_at_call 44; refine hleft0.mono ?_; rintro e w1 ⟨rfl, n, rfl⟩)
      go_ret
      exact ⟨rfl, _, rfl⟩
    · rw [if_neg h1]
      go_enter Tryd.func48, Tryd.ntmps48
      go_wp2_with (go_at_call 44; refine hleft0.mono ?_; rintro e w1 ⟨rfl, n, rfl⟩)
      go_ret
      exact ⟨rfl, _, rfl⟩
  · rw [if_pos h0]
    have hf1 : 1 ≤ f := by omega
    clear h0
    go_enter Tryd.func48, Tryd.ntmps48
    go_wp2_with (go_at_call 62; refine (errno_any f _ hf).mono ?_; rintro e w1 ⟨rfl, rfl⟩)
    go_ret
    exact ⟨rfl, 0, rfl⟩

set_option maxHeartbeats 400000 in
theorem U64_any {w : World} {r g : Nat} {xs : List Int} {pl f : Nat} (R : Rdr w r g xs pl f) (y : Took) (hy : Hid (y = takeL xs pl f 0 8 0)) :
    Calls Tryd.prog 61 #[.pointer (some ⟨r, 0, none⟩)] w fun e w' => e = .returned (.int .u64 y.n) ∧ Rdr w' r g xs y.pl y.f ∧ Kept [r] w w' := by
  have hcall := take_any w r g xs pl f 0 8 0 R (by decide) (by decide) (by decide) y hy
  clear R hy
  go_enter Tryd.func61, Tryd.ntmps61
  go_wp2_with (go_at_call 57; refine hcall.mono ?_; rintro e w1 ⟨tv, rfl, hb, hr, hk⟩)
  go_ret
  exact ⟨rfl, hr, hk⟩

set_option maxHeartbeats 400000 in
theorem U8_any {w : World} {r g : Nat} {xs : List Int} {pl f : Nat} (R : Rdr w r g xs pl f) (y : Took) (hy : Hid (y = takeL xs pl f 0 1 0)) :
    Calls Tryd.prog 42 #[.pointer (some ⟨r, 0, none⟩)] w fun e w' => e = .returned (.int .u8 y.n) ∧ Rdr w' r g xs y.pl y.f ∧ Kept [r] w w' := by
  have hcall := take_any w r g xs pl f 0 1 0 R (by decide) (by decide) (by decide) y hy
  have hb := take_lt xs R.oct pl f 1
  have hb0 : 0 ≤ y.n := by rw [hy.out]; exact hb.1
  have hb1 : y.n < 256 := by rw [hy.out]; exact hb.2
  clear R hy hb
  go_enter Tryd.func42, Tryd.ntmps42
  go_wp2_with (go_at_call 57; refine hcall.mono ?_; rintro e w1 ⟨tv, rfl, hb, hr, hk⟩)
  go_ret
  exact ⟨rfl, hr, hk⟩

end Go.Proofs.YtnfbiemmdaenpaaDoor

namespace Go.Proofs.YtnfbiemmdaenpaaDoor
open Go.RowKit

/-- The Writer in block wb holds the bytes zs; S: all the memory that is its own; none of it lies below B. -/
def WAt (w : World) (wb B : Nat) (zs : List Int) (S : List Nat) : Prop :=
  ∃ ao cap, w.heap[wb]? = some (.cells #[.slice ao zs.length cap] 85 (0, 0)) ∧ w.ownsRow B 5 1 (.slice ao zs.length cap) zs.length (zs.map (Value.int .u8)) ∧
    S = wb :: (Value.slice ao zs.length cap).ownBlock.toList ∧ (Value.slice ao zs.length cap).ownBlock ≠ some wb ∧ Octs zs ∧ B ≤ wb

theorem own_shape {w : World} {B : Nat} {e : TypeId} {size n : Nat} {v : Value} {xs : List Value} (h : w.ownsRow B e size v n xs) : ∃ ao cap, v = .slice ao n cap := by
  rcases h.2 with ⟨rfl, rfl⟩ | ⟨g, cap, cur, rfl, _⟩
  · exact ⟨none, 0, rfl⟩
  · exact ⟨_, _, rfl⟩

theorem WAt.lt {w : World} {wb B : Nat} {zs : List Int} {S : List Nat} (h : WAt w wb B zs S) : ∀ x, x ∈ S → B ≤ x ∧ x < w.heap.size := by
  obtain ⟨ao, cap, hb, ho, rfl, _, _, hB⟩ := h
  intro x hx
  rcases List.mem_cons.1 hx with rfl | hx
  · exact ⟨hB, lt_of_block hb⟩
  · exact ho.lt x (by simpa using hx)

theorem WAt.kept {w w' : World} {wb B : Nat} {zs : List Int} {S T : List Nat} (h : WAt w wb B zs S) (k : Kept T w w') (hd : ∀ x, x ∈ S → x ∉ T) : WAt w' wb B zs S := by
  obtain ⟨ao, cap, hb, ho, rfl, hne, hoc, hB⟩ := h
  refine ⟨ao, cap, k.heap hb (hd wb (by simp)), ⟨ho.1, ?_⟩, rfl, hne, hoc, hB⟩
  rcases ho.2 with hn | ⟨g, cap', cur, hv, hg, hh, rest⟩
  · exact Or.inl hn
  · refine Or.inr ⟨g, cap', cur, hv, hg, k.heap hh (hd g ?_), rest⟩
    rw [hv]; simp [Value.ownBlock]

theorem WAt.bytes {w : World} {wb B : Nat} {zs : List Int} {S : List Nat} (h : WAt w wb B zs S) : ∃ ao cap, w.cell? ⟨wb, 0, none⟩ = some (.slice ao zs.length cap) ∧ BytesAt w (.slice ao zs.length cap) zs := by
  obtain ⟨ao, cap, hb, ho, rfl, hne, hoc, hB⟩ := h
  refine ⟨ao, cap, cell_of_one hb, ?_⟩
  rcases ho.2 with ⟨hv, hn⟩ | ⟨g, cap', cur, hv, hg, hh, hnc, hcm, hcs, htk⟩
  · obtain rfl : zs = [] := List.eq_nil_of_length_eq_zero hn
    rw [hv]; exact BytesAt.nil w
  · rw [hv]
    simp only [Value.slice.injEq] at hv
    obtain ⟨rfl, _, rfl⟩ := hv
    refine ⟨_, cap, rfl, hnc, fun e => (by simp at e), fun _ => ⟨g, 0, rfl, fun i u hu => ?_⟩⟩
    have hi : i < zs.length := (List.getElem?_eq_some_iff.1 hu).1
    rw [cell_of_row w g (0 + i) _ _ _ hh, Nat.zero_add, ← Array.getElem?_toList]
    have h2 : (cur.toList.take (zs.length * 1))[i]? = cur.toList[i]? := List.getElem?_take_of_lt (by omega)
    rw [← h2, htk]
    simp [hu]

set_option maxHeartbeats 400000 in
theorem New_any (w : World) (B : Nat) (hB : B ≤ w.heap.size) : Calls Tryd.prog 20 #[] w fun e w' => e = .returned (.pointer (some ⟨w.heap.size, 0, none⟩)) ∧ WAt w' w.heap.size B [] [w.heap.size] ∧ Kept [] w w' := by
  go_enter Tryd.func20, Tryd.ntmps20
  go_wp2
  go_ret
  exact ⟨rfl, ⟨none, 0, heap_alloc_new w _, World.ownsRow_nil _ _ _ _, rfl, by simp [Value.ownBlock], fun u hu => by simp at hu, hB⟩, (Kept.refl _ _).alloc _⟩

theorem WOut_any {w : World} {wb B : Nat} {zs : List Int} {S : List Nat} (h : WAt w wb B zs S) (hm : zs.length ≤ 140737488355328) : Calls Tryd.prog 22 #[.pointer (some ⟨wb, 0, none⟩)] w fun e w' =>
    e = .returned (.slice (some ⟨w.heap.size, 0, none⟩) zs.length zs.length) ∧ w'.heap[w.heap.size]? = some (.cells (zs.map (Value.int .u8)).toArray 5 (0, 0)) ∧ Kept [] w w' := by
  obtain ⟨ao, cap, hc, hb⟩ := h.bytes
  have hcall := copied_any _ zs w hb hm
  clear h hb
  go_enter Tryd.func22, Tryd.ntmps22
  go_wp2_with (go_at_call 32; refine hcall.mono ?_; rintro e w1 ⟨rfl, hg, hk⟩; have HG : Hid _ := hg; clear hg)
  go_ret
  exact ⟨rfl, HG.out, hk⟩

/-- What a Writer's call leaves: more bytes; its memory is its own; nothing else has turned. -/
def Wrote (w w' : World) (wb B : Nat) (zs : List Int) (S : List Nat) : Prop := ∃ S', WAt w' wb B zs S' ∧ Kept S w w' ∧ ∀ x, x ∈ S' → x ∈ S ∨ w.heap.size ≤ x

theorem Wrote.trans {w w1 w2 : World} {wb B : Nat} {us : List Int} {S S1 : List Nat} (k1 : Kept S w w1) (hS1 : ∀ x, x ∈ S1 → x ∈ S ∨ w.heap.size ≤ x) (h2 : Wrote w1 w2 wb B us S1) : Wrote w w2 wb B us S := by
  obtain ⟨S2, hw, k2, hs2⟩ := h2
  refine ⟨S2, hw, k1.trans k2 hS1, fun x hx => ?_⟩
  rcases hs2 x hx with h | h
  · exact hS1 x h
  · exact Or.inr (Nat.le_trans k1.size h)
theorem Wrote.refl {w : World} {wb B : Nat} {zs : List Int} {S : List Nat} (h : WAt w wb B zs S) : Wrote w w wb B zs S := ⟨S, h, Kept.refl _ _, fun _ hx => Or.inl hx⟩

/-- The world behind an append and the store of what it gave. -/
theorem wrote_of {w wa w1 : World} {wb B : Nat} {zs ys : List Int} {ao : Option Addr} {cap : Nat} {ao' : Option Addr} {cap' : Nat} (ka : Kept [] w wa) (hz : w.heap.size ≤ wa.heap.size)
    (hb : w.heap[wb]? = some (.cells #[.slice ao zs.length cap] 85 (0, 0)))
    (hne : (Value.slice ao zs.length cap).ownBlock ≠ some wb) (hoc : Octs zs) (hoy : Octs ys) (hB : B ≤ wb)
    (ho' : w1.ownsRow B 5 1 (.slice ao' (zs.length + ys.length) cap') (zs.length + ys.length) (zs.map (Value.int .u8) ++ ys.map (Value.int .u8))) (hgr : wa.grownBy w1 (Value.slice ao zs.length cap).ownBlock)
    (hat : (Value.slice ao' (zs.length + ys.length) cap').ownBlock = (Value.slice ao zs.length cap).ownBlock ∨ (Value.slice ao' (zs.length + ys.length) cap').ownBlock = some wa.heap.size) :
    Wrote w (w1.setCell ⟨wb, 0, none⟩ (.slice ao' (zs.length + ys.length) cap')) wb B (zs ++ ys) (wb :: (Value.slice ao zs.length cap).ownBlock.toList) := by
  have hlt := lt_of_block hb
  have hb1 : w1.heap[wb]? = some (.cells #[.slice ao zs.length cap] 85 (0, 0)) := (hgr.block wb (by omega) (Ne.symm hne)).trans (ka.heap hb (by simp))
  have hne' : (Value.slice ao' (zs.length + ys.length) cap').ownBlock ≠ some wb := by
    rcases hat with h | h
    · rw [h]; exact hne
    · rw [h]; simp; omega
  have hl : (zs ++ ys).length = zs.length + ys.length := List.length_append
  refine ⟨wb :: (Value.slice ao' (zs.length + ys.length) cap').ownBlock.toList, ⟨ao', cap', ?_, ?_, by rw [hl], by rw [hl]; exact hne', fun u hu => (List.mem_append.1 hu).elim (hoc u) (hoy u), hB⟩, ?_, ?_⟩
  · rw [hl]; exact one_setCell hb1
  · rw [hl, List.map_append]; exact ownsRow_setCell_other ho' hne' _
  · refine Kept.setCell ?_ (Or.inl (by simp)) _
    exact (ka.more (by simp)).grown hgr (fun k hk => Or.inl (by rw [hk]; simp))
  · intro x hx
    rcases List.mem_cons.1 hx with rfl | hx
    · exact Or.inl (by simp)
    · simp only [Option.mem_toList] at hx
      rcases hat with h | h
      · rw [h] at hx; exact Or.inl (by rw [hx]; simp)
      · rw [h] at hx; simp at hx; exact Or.inr (by omega)

set_option maxHeartbeats 1000000 in
theorem WRaw_any {w : World} {wb B : Nat} {zs : List Int} {S : List Nat} (h : WAt w wb B zs S) (hBw : B ≤ w.heap.size) (v : Value) (ys : List Int) (hv : BytesAt w v ys) (hoy : Octs ys) (hm : zs.length + ys.length ≤ 140737488355328) :
    Calls Tryd.prog 99 #[.pointer (some ⟨wb, 0, none⟩), v] w fun e w' => e = .returned (.tuple #[]) ∧ Wrote w w' wb B (zs ++ ys) S := by
  obtain ⟨ao, cap, hb, ho, rfl, hne, hoc, hB⟩ := h
  obtain ⟨i0, hi, hz0, hz1, hz2⟩ := info_parts Tryd.info_u8
  have hc := cell_of_one hb
  have hfr := free_of_one hb
  obtain ⟨so, sc, rfl, hsc, hsn, hcell⟩ := hv
  cases so with
  | none =>
    obtain rfl : ys = [] := by
      rcases ys with _ | ⟨y, ys⟩
      · rfl
      · obtain ⟨b, off, e, _⟩ := hcell (by simp); simp at e
    obtain rfl : sc = 0 := hsn rfl
    have hw : Wrote w (w.setCell ⟨wb, 0, none⟩ (.slice ao zs.length cap)) wb B (zs ++ []) (wb :: (Value.slice ao zs.length cap).ownBlock.toList) := by
      rw [List.append_nil]
      exact ⟨_, ⟨ao, cap, one_setCell hb, ownsRow_setCell_other ho hne _, rfl, hne, hoc, hB⟩, (Kept.refl _ _).setCell (Or.inl (by simp)) _, fun x hx => Or.inl hx⟩
    have HW : Hid (Wrote w (w.setCell ⟨wb, 0, none⟩ (.slice ao zs.length cap)) wb B (zs ++ []) (wb :: (Value.slice ao zs.length cap).ownBlock.toList)) := hw
    clear hw
    go_enter Tryd.func99, Tryd.ntmps99
    go_wp2_with (at_builtin; refine wpList_append_own_none rfl (.tmp 8) (.tmp 9) 22 rfl B 5 i0 1 Tryd.underlying22 hi _ _ _ rfl ho rfl ?_)
    go_end0
    exact ⟨rfl, by simpa using HW.out⟩
  | some sa =>
    have hnews : ∀ j u, (ys.map (Value.int .u8))[j]? = some u → w.cell? (sa.add j) = some u := by
      intro j u hu
      simp only [List.getElem?_map, Option.map_eq_some_iff] at hu
      obtain ⟨z, hz, rfl⟩ := hu
      obtain ⟨b, off, e, hh⟩ := hcell (by rintro rfl; simp at hz)
      simp only [Option.some.injEq] at e
      subst e
      rw [Addr.add_mid]
      exact hh j z hz
    obtain ⟨cs, hcs⟩ : ∃ cs, cs = ys.map (Value.int .u8) := ⟨_, rfl⟩
    have hcl : cs.length = ys.length * 1 := by rw [hcs]; simp
    have hco : ∀ u ∈ cs, u.oneCell' = true := by rw [hcs]; exact map_oneCell ys
    rw [← hcs] at hnews
    have HC : Hid (cs = ys.map (Value.int .u8)) := hcs
    clear hcs
    go_enter Tryd.func99, Tryd.ntmps99
    go_wp2_with (at_builtin; refine wpList_append_own_at _ rfl (.tmp 8) (.tmp 9) 22 rfl B 5 i0 (.int .u8 0) 1 1 Tryd.underlying22 hi hz0 hz1 hz2 rfl (by decide) (.slice ao zs.length cap) zs.length (zs.map (Value.int .u8)) rfl ho sa ys.length sc cs rfl hcl hnews hco (by unfold maxLen; omega) (by omega) hBw ?_; intro v' w1 ho' hgr hnil hat; obtain ⟨ao', cap', hv'⟩ := own_shape ho'; subst hv'; have hb1 : w1.heap[wb]? = some (.cells #[.slice ao zs.length cap] 85 (0, 0)) := (hgr.block wb (lt_of_block hb) (Ne.symm hne)).trans hb; have c1 := cell_of_one hb1; have f1 := free_of_one hb1; clear hb1 hnil)
    go_end0
    rw [HC.out] at ho'
    exact ⟨rfl, wrote_of (Kept.refl _ _) (Nat.le_refl _) hb hne hoc hoy hB ho' hgr hat⟩

end Go.Proofs.YtnfbiemmdaenpaaDoor

namespace Go.Proofs.YtnfbiemmdaenpaaDoor
open Go.RowKit

/-- A number in so many bytes, the highest first. -/
def fixedB (n : Int) (size : Nat) : List Int := (List.range size).map fun i => n / 256 ^ (size - 1 - i) % 256
theorem fixedB_len (n : Int) (size : Nat) : (fixedB n size).length = size := by simp [fixedB]
theorem fixedB_take (n : Int) (size k : Nat) (h : k < size) : (fixedB n size).take (k + 1) = (fixedB n size).take k ++ [n / 256 ^ (size - 1 - k) % 256] := by
  rw [List.take_succ_eq_append_getElem (by rw [fixedB_len]; exact h)]
  simp [fixedB]
theorem fixedB_octs (n : Int) (size : Nat) : Octs (fixedB n size) := by
  intro u hu
  simp only [fixedB, List.mem_map] at hu
  obtain ⟨i, _, rfl⟩ := hu
  omega

theorem byte_of (n : Int) (j : Nat) : IntKind.u8.wrap (n / 2 ^ (8 * (j : Int)).toNat) = n / 256 ^ j % 256 := by
  rw [show (8 * (j : Int)).toNat = 8 * j by omega, IntKind.wrap_u8', show (256 : Int) = 2 ^ 8 by decide, ← Int.pow_mul]

end Go.Proofs.YtnfbiemmdaenpaaDoor

namespace Go.Proofs.YtnfbiemmdaenpaaDoor
open Go.RowKit

theorem bitLen_way (x y : Int) (s D : Nat) (hD : D = 2 ^ s) (hy : y = x / D) (h0 : 0 ≤ x) (h1 : x ≤ 18446744073709551615) (hlo : (D : Int) ≤ x) (hup : y ≤ 255) : (s : Int) + Lib.len8 y = (Lib.bitLen x.toNat : Int) := by
  have hy0 : 0 ≤ y := by rw [hy]; exact Int.ediv_nonneg h0 (by omega)
  have hp : (2 : Nat) ^ 64 = 18446744073709551616 := by decide
  rw [Lib.len8_of y hy0 hup, Lib.bitLen_shift s x.toNat (by rw [← hD]; omega) (by omega)]
  rw [hy, ← hD]
  have : (x / (D : Int)).toNat = x.toNat / D := by
    obtain ⟨n, rfl⟩ := Int.eq_ofNat_of_zero_le h0
    rw [← Int.natCast_ediv]
    rfl
  rw [this]
  omega

theorem bitLenAux_spec : ∀ (f x : Nat), 1 ≤ x → x < 2 ^ f → 1 ≤ Lib.bitLenAux f x ∧ 2 ^ (Lib.bitLenAux f x - 1) ≤ x ∧ x < 2 ^ Lib.bitLenAux f x := by
  intro f
  induction f with
  | zero => intro x h1 h2; simp at h2; omega
  | succ f ih =>
    intro x h1 h2
    by_cases hx : x / 2 = 0
    · have : x = 1 := by omega
      subst this
      have e : Lib.bitLenAux (f + 1) 1 = 1 := by
        unfold Lib.bitLenAux
        cases f <;> simp [Lib.bitLenAux]
      rw [e]
      simp
    · have h3 := ih (x / 2) (by omega) (by rw [Nat.pow_succ] at h2; omega)
      have e : Lib.bitLenAux (f + 1) x = 1 + Lib.bitLenAux f (x / 2) := by
        conv => lhs; unfold Lib.bitLenAux
        rw [if_neg (by omega)]
      obtain ⟨t, ht⟩ : ∃ t, Lib.bitLenAux f (x / 2) = t + 1 := ⟨Lib.bitLenAux f (x / 2) - 1, by omega⟩
      rw [e, ht]
      rw [ht] at h3
      simp only [Nat.add_sub_cancel] at h3
      rw [show 1 + (t + 1) - 1 = t + 1 by omega, show 1 + (t + 1) = t + 1 + 1 by omega, Nat.pow_succ, Nat.pow_succ 2 (t + 1)]
      rw [Nat.pow_succ] at h3 ⊢
      omega
theorem bitLen_spec (x : Nat) (h1 : 1 ≤ x) (h2 : x ≤ 18446744073709551615) : 1 ≤ Lib.bitLen x ∧ 2 ^ (Lib.bitLen x - 1) ≤ x ∧ x < 2 ^ Lib.bitLen x ∧ Lib.bitLen x ≤ 64 := by
  have hp : (2 : Nat) ^ 64 = 18446744073709551616 := by decide
  have h := bitLenAux_spec 64 x h1 (by omega)
  exact ⟨h.1, h.2.1, h.2.2, Lib.bitLen_le x 64 (by decide) (by omega)⟩

set_option maxHeartbeats 400000 in
set_option maxRecDepth 100000 in
theorem Len64_0 (x : Int) (w : World) (h0 : 0 ≤ x) (h1 : x ≤ 255) : Calls Tryd.prog 106 #[.int .u64 x] w fun e w' => e = .returned (.int .i64 (Lib.bitLen x.toNat)) ∧ w' = w := by
  have l0 := Lib.len8_of x (by omega) (by omega)
  have l1 := Lib.bitLen_le8' x (by omega) (by omega)
  have hix := fun w => Lib.run_index_len8tab (P := Tryd.prog) w 9 .u8 x Tryd.underlying9 (by omega) (by omega)
  rw [l0] at hix
  clear l0
  go_enter Tryd.func106, Tryd.ntmps106
  go_wp2
  go_ret
  exact ⟨rfl, rfl⟩

set_option maxHeartbeats 400000 in
set_option maxRecDepth 100000 in
theorem Len64_8 (x : Int) (w : World) (h0 : 256 ≤ x) (h1 : x ≤ 65535) : Calls Tryd.prog 106 #[.int .u64 x] w fun e w' => e = .returned (.int .i64 (Lib.bitLen x.toNat)) ∧ w' = w := by
  obtain ⟨y, hy⟩ : ∃ y, y = x / 256 := ⟨_, rfl⟩
  have hb := bitLen_way x y 8 256 (by decide) hy (by omega) (by omega) h0 (by omega)
  have y0 : 0 ≤ y := by omega
  have y1 : y ≤ 255 := by omega
  have q : x / 256 = y := by omega
  have l0 := Lib.len8_of y y0 y1
  have l1 := Lib.bitLen_le8' y y0 y1
  have hix := fun w => Lib.run_index_len8tab (P := Tryd.prog) w 9 .u8 y Tryd.underlying9 y0 y1
  rw [l0] at hix hb
  have HB : Hid ((8 : Int) + (Lib.bitLen y.toNat : Int) = (Lib.bitLen x.toNat : Int)) := hb
  clear l0 hb hy
  go_enter Tryd.func106, Tryd.ntmps106
  go_wp2
  go_ret
  exact ⟨congrArg Ending.returned (congrArg (Value.int IntKind.i64) HB.out), rfl⟩

set_option maxHeartbeats 400000 in
set_option maxRecDepth 100000 in
theorem Len64_16 (x : Int) (w : World) (h0 : 65536 ≤ x) (h1 : x ≤ 16777215) : Calls Tryd.prog 106 #[.int .u64 x] w fun e w' => e = .returned (.int .i64 (Lib.bitLen x.toNat)) ∧ w' = w := by
  obtain ⟨y, hy⟩ : ∃ y, y = x / 65536 := ⟨_, rfl⟩
  have hb := bitLen_way x y 16 65536 (by decide) hy (by omega) (by omega) h0 (by omega)
  have y0 : 0 ≤ y := by omega
  have y1 : y ≤ 255 := by omega
  have q : x / 65536 = y := by omega
  have l0 := Lib.len8_of y y0 y1
  have l1 := Lib.bitLen_le8' y y0 y1
  have hix := fun w => Lib.run_index_len8tab (P := Tryd.prog) w 9 .u8 y Tryd.underlying9 y0 y1
  rw [l0] at hix hb
  have HB : Hid ((16 : Int) + (Lib.bitLen y.toNat : Int) = (Lib.bitLen x.toNat : Int)) := hb
  clear l0 hb hy
  go_enter Tryd.func106, Tryd.ntmps106
  go_wp2
  go_ret
  exact ⟨congrArg Ending.returned (congrArg (Value.int IntKind.i64) HB.out), rfl⟩

set_option maxHeartbeats 400000 in
set_option maxRecDepth 100000 in
theorem Len64_24 (x : Int) (w : World) (h0 : 16777216 ≤ x) (h1 : x ≤ 4294967295) : Calls Tryd.prog 106 #[.int .u64 x] w fun e w' => e = .returned (.int .i64 (Lib.bitLen x.toNat)) ∧ w' = w := by
  obtain ⟨y, hy⟩ : ∃ y, y = x / 16777216 := ⟨_, rfl⟩
  have hb := bitLen_way x y 24 16777216 (by decide) hy (by omega) (by omega) h0 (by omega)
  have y0 : 0 ≤ y := by omega
  have y1 : y ≤ 255 := by omega
  have q : x / 65536 / 256 = y := by omega
  have l0 := Lib.len8_of y y0 y1
  have l1 := Lib.bitLen_le8' y y0 y1
  have hix := fun w => Lib.run_index_len8tab (P := Tryd.prog) w 9 .u8 y Tryd.underlying9 y0 y1
  rw [l0] at hix hb
  have HB : Hid ((24 : Int) + (Lib.bitLen y.toNat : Int) = (Lib.bitLen x.toNat : Int)) := hb
  clear l0 hb hy
  go_enter Tryd.func106, Tryd.ntmps106
  go_wp2
  go_ret
  exact ⟨congrArg Ending.returned (congrArg (Value.int IntKind.i64) HB.out), rfl⟩

set_option maxHeartbeats 400000 in
set_option maxRecDepth 100000 in
theorem Len64_32 (x : Int) (w : World) (h0 : 4294967296 ≤ x) (h1 : x ≤ 1099511627775) : Calls Tryd.prog 106 #[.int .u64 x] w fun e w' => e = .returned (.int .i64 (Lib.bitLen x.toNat)) ∧ w' = w := by
  obtain ⟨y, hy⟩ : ∃ y, y = x / 4294967296 := ⟨_, rfl⟩
  have hb := bitLen_way x y 32 4294967296 (by decide) hy (by omega) (by omega) h0 (by omega)
  have y0 : 0 ≤ y := by omega
  have y1 : y ≤ 255 := by omega
  have q : x / 4294967296 = y := by omega
  have l0 := Lib.len8_of y y0 y1
  have l1 := Lib.bitLen_le8' y y0 y1
  have hix := fun w => Lib.run_index_len8tab (P := Tryd.prog) w 9 .u8 y Tryd.underlying9 y0 y1
  rw [l0] at hix hb
  have HB : Hid ((32 : Int) + (Lib.bitLen y.toNat : Int) = (Lib.bitLen x.toNat : Int)) := hb
  clear l0 hb hy
  go_enter Tryd.func106, Tryd.ntmps106
  go_wp2
  go_ret
  exact ⟨congrArg Ending.returned (congrArg (Value.int IntKind.i64) HB.out), rfl⟩

set_option maxHeartbeats 400000 in
set_option maxRecDepth 100000 in
theorem Len64_40 (x : Int) (w : World) (h0 : 1099511627776 ≤ x) (h1 : x ≤ 281474976710655) : Calls Tryd.prog 106 #[.int .u64 x] w fun e w' => e = .returned (.int .i64 (Lib.bitLen x.toNat)) ∧ w' = w := by
  obtain ⟨y, hy⟩ : ∃ y, y = x / 1099511627776 := ⟨_, rfl⟩
  have hb := bitLen_way x y 40 1099511627776 (by decide) hy (by omega) (by omega) h0 (by omega)
  have y0 : 0 ≤ y := by omega
  have y1 : y ≤ 255 := by omega
  have q : x / 4294967296 / 256 = y := by omega
  have l0 := Lib.len8_of y y0 y1
  have l1 := Lib.bitLen_le8' y y0 y1
  have hix := fun w => Lib.run_index_len8tab (P := Tryd.prog) w 9 .u8 y Tryd.underlying9 y0 y1
  rw [l0] at hix hb
  have HB : Hid ((40 : Int) + (Lib.bitLen y.toNat : Int) = (Lib.bitLen x.toNat : Int)) := hb
  clear l0 hb hy
  go_enter Tryd.func106, Tryd.ntmps106
  go_wp2
  go_ret
  exact ⟨congrArg Ending.returned (congrArg (Value.int IntKind.i64) HB.out), rfl⟩

set_option maxHeartbeats 400000 in
set_option maxRecDepth 100000 in
theorem Len64_48 (x : Int) (w : World) (h0 : 281474976710656 ≤ x) (h1 : x ≤ 72057594037927935) : Calls Tryd.prog 106 #[.int .u64 x] w fun e w' => e = .returned (.int .i64 (Lib.bitLen x.toNat)) ∧ w' = w := by
  obtain ⟨y, hy⟩ : ∃ y, y = x / 281474976710656 := ⟨_, rfl⟩
  have hb := bitLen_way x y 48 281474976710656 (by decide) hy (by omega) (by omega) h0 (by omega)
  have y0 : 0 ≤ y := by omega
  have y1 : y ≤ 255 := by omega
  have q : x / 4294967296 / 65536 = y := by omega
  have l0 := Lib.len8_of y y0 y1
  have l1 := Lib.bitLen_le8' y y0 y1
  have hix := fun w => Lib.run_index_len8tab (P := Tryd.prog) w 9 .u8 y Tryd.underlying9 y0 y1
  rw [l0] at hix hb
  have HB : Hid ((48 : Int) + (Lib.bitLen y.toNat : Int) = (Lib.bitLen x.toNat : Int)) := hb
  clear l0 hb hy
  go_enter Tryd.func106, Tryd.ntmps106
  go_wp2
  go_ret
  exact ⟨congrArg Ending.returned (congrArg (Value.int IntKind.i64) HB.out), rfl⟩

set_option maxHeartbeats 400000 in
set_option maxRecDepth 100000 in
theorem Len64_56 (x : Int) (w : World) (h0 : 72057594037927936 ≤ x) (h1 : x ≤ 18446744073709551615) : Calls Tryd.prog 106 #[.int .u64 x] w fun e w' => e = .returned (.int .i64 (Lib.bitLen x.toNat)) ∧ w' = w := by
  obtain ⟨y, hy⟩ : ∃ y, y = x / 72057594037927936 := ⟨_, rfl⟩
  have hb := bitLen_way x y 56 72057594037927936 (by decide) hy (by omega) (by omega) h0 (by omega)
  have y0 : 0 ≤ y := by omega
  have y1 : y ≤ 255 := by omega
  have q : x / 4294967296 / 65536 / 256 = y := by omega
  have l0 := Lib.len8_of y y0 y1
  have l1 := Lib.bitLen_le8' y y0 y1
  have hix := fun w => Lib.run_index_len8tab (P := Tryd.prog) w 9 .u8 y Tryd.underlying9 y0 y1
  rw [l0] at hix hb
  have HB : Hid ((56 : Int) + (Lib.bitLen y.toNat : Int) = (Lib.bitLen x.toNat : Int)) := hb
  clear l0 hb hy
  go_enter Tryd.func106, Tryd.ntmps106
  go_wp2
  go_ret
  exact ⟨congrArg Ending.returned (congrArg (Value.int IntKind.i64) HB.out), rfl⟩

theorem Len64_any (x : Int) (w : World) (h0 : 0 ≤ x) (h1 : x ≤ 18446744073709551615) :
    Calls Tryd.prog 106 #[.int .u64 x] w fun e w' => e = .returned (.int .i64 (Lib.bitLen x.toNat)) ∧ w' = w := by
  by_cases g0 : x ≤ 255
  · exact Len64_0 x w (by omega) g0
  by_cases g8 : x ≤ 65535
  · exact Len64_8 x w (by omega) g8
  by_cases g16 : x ≤ 16777215
  · exact Len64_16 x w (by omega) g16
  by_cases g24 : x ≤ 4294967295
  · exact Len64_24 x w (by omega) g24
  by_cases g32 : x ≤ 1099511627775
  · exact Len64_32 x w (by omega) g32
  by_cases g40 : x ≤ 281474976710655
  · exact Len64_40 x w (by omega) g40
  by_cases g48 : x ≤ 72057594037927935
  · exact Len64_48 x w (by omega) g48
  exact Len64_56 x w (by omega) h1

end Go.Proofs.YtnfbiemmdaenpaaDoor
