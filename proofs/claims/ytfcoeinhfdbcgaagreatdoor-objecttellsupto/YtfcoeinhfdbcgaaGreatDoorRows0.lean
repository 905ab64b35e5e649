/-
  WALKS: the methods of a Reader: End, U64, U8, for every Reader.
  WALKS: code.New and the methods of a Writer, for every Writer.
  PLAIN: a number in so many bytes, the highest first, as it is written.
  WALK: math/bits.Len64: the number of binary digits, for every number of 64 bits.
  Bytes turned into a string; strings of bytes that are the same.
  Cells written in the middle of a block; blocks that are rows of one length, side by side.
-/
import Derived.Test.YtfcoeinhfdbcgaaGreatDoorRdBy
import Derived.Test.YtfcoeinhfdbcgaaGreatDoorPlain2
import Derived.Maps.AppendAt
import Derived.Laws.AppendOwnNone
import Derived.Test.YtfcoeinhfdbcgaaGreatDoorPlain
import Derived.Test.YtfcoeinhfdbcgaaGreatDoorChecked
import Derived.WalkKit
import Derived.WalkSpells
import Derived.Lib.Walk
import Derived.Lib.BitFns
import Derived.Deep.Light
import Derived.Test.YtfcoeinhfdbcgaaGreatDoorSha2
import Derived.Laws.BytesArg
import Derived.Deep.MidRow
import Derived.Laws.MakeOwn
namespace Go.Proofs.YtfcoeinhfdbcgaaGreatDoor
open Go.RowKit

set_option maxHeartbeats 400000 in
theorem End_any {w : World} {r g : Nat} {xs : List Int} {pl f : Nat} (R : Rdr w r g xs pl f) (hf : f ≤ 4) : Calls Tryz.prog 50 #[.pointer (some ⟨r, 0, none⟩)] w fun e w' =>
    e = .returned (.int .i64 (if f ≠ 0 then errL f else if pl < xs.length then 13 else 0)) ∧ ∃ n, w' = w.drewN n := by
  obtain ⟨d0, d1, d2, d3, d4⟩ := R.facts
  have hleft := fun n => Left_any (R.kept (S := []) ((Kept.refl _ _).drewN n) (by simp) (by simp))
  have hleft0 := Left_any R
  have hle := R.le
  clear R
  by_cases h0 : f = 0
  · subst h0
    rw [if_neg (by decide)]
    by_cases h1 : pl < xs.length
    · rw [if_pos h1]
      go_enter Tryz.func50, Tryz.ntmps50
      go_wp2_with (go_at_call 46; refine hleft0.mono ?_; rintro e w1 ⟨rfl, n, rfl⟩)
      go_ret
      exact ⟨rfl, _, rfl⟩
    · rw [if_neg h1]
      go_enter Tryz.func50, Tryz.ntmps50
      go_wp2_with (go_at_call 46; refine hleft0.mono ?_; rintro e w1 ⟨rfl, n, rfl⟩)
      go_ret
      exact ⟨rfl, _, rfl⟩
  · rw [if_pos h0]
    have hf1 : 1 ≤ f := by omega
    clear h0
    go_enter Tryz.func50, Tryz.ntmps50
    go_wp2_with (go_at_call 77; refine (errno_any f _ hf).mono ?_; rintro e w1 ⟨rfl, rfl⟩)
    go_ret
    exact ⟨rfl, 0, rfl⟩

set_option maxHeartbeats 400000 in
theorem U64_any {w : World} {r g : Nat} {xs : List Int} {pl f : Nat} (R : Rdr w r g xs pl f) (y : Took) (hy : Hid (y = takeL xs pl f 0 8 0)) :
    Calls Tryz.prog 76 #[.pointer (some ⟨r, 0, none⟩)] w fun e w' => e = .returned (.int .u64 y.n) ∧ Rdr w' r g xs y.pl y.f ∧ Kept [r] w w' := by
  have hcall := take_any w r g xs pl f 0 8 0 R (by decide) (by decide) (by decide) y hy
  clear R hy
  go_enter Tryz.func76, Tryz.ntmps76
  go_wp2_with (go_at_call 72; refine hcall.mono ?_; rintro e w1 ⟨tv, rfl, hb, hr, hk⟩)
  go_ret
  exact ⟨rfl, hr, hk⟩

set_option maxHeartbeats 400000 in
theorem U8_any {w : World} {r g : Nat} {xs : List Int} {pl f : Nat} (R : Rdr w r g xs pl f) (y : Took) (hy : Hid (y = takeL xs pl f 0 1 0)) :
    Calls Tryz.prog 44 #[.pointer (some ⟨r, 0, none⟩)] w fun e w' => e = .returned (.int .u8 y.n) ∧ Rdr w' r g xs y.pl y.f ∧ Kept [r] w w' := by
  have hcall := take_any w r g xs pl f 0 1 0 R (by decide) (by decide) (by decide) y hy
  have hb := take_lt xs R.oct pl f 1
  have hb0 : 0 ≤ y.n := by rw [hy.out]; exact hb.1
  have hb1 : y.n < 256 := by rw [hy.out]; exact hb.2
  clear R hy hb
  go_enter Tryz.func44, Tryz.ntmps44
  go_wp2_with (go_at_call 72; refine hcall.mono ?_; rintro e w1 ⟨tv, rfl, hb, hr, hk⟩)
  go_ret
  exact ⟨rfl, hr, hk⟩

end Go.Proofs.YtfcoeinhfdbcgaaGreatDoor

namespace Go.Proofs.YtfcoeinhfdbcgaaGreatDoor
open Go.RowKit

/-- The Writer in block wb holds the bytes zs; S: all the memory that is its own; none of it lies below B. -/
def WAt (w : World) (wb B : Nat) (zs : List Int) (S : List Nat) : Prop :=
  ∃ ao cap, w.heap[wb]? = some (.cells #[.slice ao zs.length cap] 93 (0, 0)) ∧ w.ownsRow B 5 1 (.slice ao zs.length cap) zs.length (zs.map (Value.int .u8)) ∧
    S = wb :: (Value.slice ao zs.length cap).ownBlock.toList ∧ (Value.slice ao zs.length cap).ownBlock ≠ some wb ∧ Octs zs ∧ B ≤ wb

theorem own_shape {w : World} {B : Nat} {e : TypeId} {size n : Nat} {v : Value} {xs : List Value} (h : w.ownsRow B e size v n xs) : ∃ ao cap, v = .slice ao n cap := by
  rcases h.2 with ⟨rfl, rfl⟩ | ⟨g, cap, cur, rfl, _⟩
  · exact ⟨none, 0, rfl⟩
  · exact ⟨_, _, rfl⟩

theorem WAt.lt {w : World} {wb B : Nat} {zs : List Int} {S : List Nat} (h : WAt w wb B zs S) : ∀ x, x ∈ S → B ≤ x ∧ x < w.heap.size := by
  obtain ⟨ao, cap, hb, ho, rfl, _, _, hB⟩ := h
  intro x hx
  rcases List.mem_cons.1 hx with rfl | hx
  · exact ⟨hB, lt_of_block hb⟩
  · exact ho.lt x (by simpa using hx)

theorem WAt.kept {w w' : World} {wb B : Nat} {zs : List Int} {S T : List Nat} (h : WAt w wb B zs S) (k : Kept T w w') (hd : ∀ x, x ∈ S → x ∉ T) : WAt w' wb B zs S := by
  obtain ⟨ao, cap, hb, ho, rfl, hne, hoc, hB⟩ := h
  refine ⟨ao, cap, k.heap hb (hd wb (by simp)), ⟨ho.1, ?_⟩, rfl, hne, hoc, hB⟩
  rcases ho.2 with hn | ⟨g, cap', cur, hv, hg, hh, rest⟩
  · exact Or.inl hn
  · refine Or.inr ⟨g, cap', cur, hv, hg, k.heap hh (hd g ?_), rest⟩
    rw [hv]; simp [Value.ownBlock]

theorem WAt.bytes {w : World} {wb B : Nat} {zs : List Int} {S : List Nat} (h : WAt w wb B zs S) : ∃ ao cap, w.cell? ⟨wb, 0, none⟩ = some (.slice ao zs.length cap) ∧ BytesAt w (.slice ao zs.length cap) zs := by
  obtain ⟨ao, cap, hb, ho, rfl, hne, hoc, hB⟩ := h
  refine ⟨ao, cap, cell_of_one hb, ?_⟩
  rcases ho.2 with ⟨hv, hn⟩ | ⟨g, cap', cur, hv, hg, hh, hnc, hcm, hcs, htk⟩
  · obtain rfl : zs = [] := List.eq_nil_of_length_eq_zero hn
    rw [hv]; exact BytesAt.nil w
  · rw [hv]
    simp only [Value.slice.injEq] at hv
    obtain ⟨rfl, _, rfl⟩ := hv
    refine ⟨_, cap, rfl, hnc, fun e => (by simp at e), fun _ => ⟨g, 0, rfl, fun i u hu => ?_⟩⟩
    have hi : i < zs.length := (List.getElem?_eq_some_iff.1 hu).1
    rw [cell_of_row w g (0 + i) _ _ _ hh, Nat.zero_add, ← Array.getElem?_toList]
    have h2 : (cur.toList.take (zs.length * 1))[i]? = cur.toList[i]? := List.getElem?_take_of_lt (by omega)
    rw [← h2, htk]
    simp [hu]

set_option maxHeartbeats 400000 in
theorem New_any (w : World) (B : Nat) (hB : B ≤ w.heap.size) : Calls Tryz.prog 26 #[] w fun e w' => e = .returned (.pointer (some ⟨w.heap.size, 0, none⟩)) ∧ WAt w' w.heap.size B [] [w.heap.size] ∧ Kept [] w w' := by
  go_enter Tryz.func26, Tryz.ntmps26
  go_wp2
  go_ret
  exact ⟨rfl, ⟨none, 0, heap_alloc_new w _, World.ownsRow_nil _ _ _ _, rfl, by simp [Value.ownBlock], fun u hu => by simp at hu, hB⟩, (Kept.refl _ _).alloc _⟩

theorem WOut_any {w : World} {wb B : Nat} {zs : List Int} {S : List Nat} (h : WAt w wb B zs S) (hm : zs.length ≤ 140737488355328) : Calls Tryz.prog 28 #[.pointer (some ⟨wb, 0, none⟩)] w fun e w' =>
    e = .returned (.slice (some ⟨w.heap.size, 0, none⟩) zs.length zs.length) ∧ w'.heap[w.heap.size]? = some (.cells (zs.map (Value.int .u8)).toArray 5 (0, 0)) ∧ Kept [] w w' := by
  obtain ⟨ao, cap, hc, hb⟩ := h.bytes
  have hcall := copied_any _ zs w hb hm
  clear h hb
  go_enter Tryz.func28, Tryz.ntmps28
  go_wp2_with (go_at_call 42; refine hcall.mono ?_; rintro e w1 ⟨rfl, hg, hk⟩; have HG : Hid _ := hg; clear hg)
  go_ret
  exact ⟨rfl, HG.out, hk⟩

/-- What a Writer's call leaves: more bytes; its memory is its own; nothing else has turned. -/
def Wrote (w w' : World) (wb B : Nat) (zs : List Int) (S : List Nat) : Prop := ∃ S', WAt w' wb B zs S' ∧ Kept S w w' ∧ ∀ x, x ∈ S' → x ∈ S ∨ w.heap.size ≤ x

theorem Wrote.trans {w w1 w2 : World} {wb B : Nat} {us : List Int} {S S1 : List Nat} (k1 : Kept S w w1) (hS1 : ∀ x, x ∈ S1 → x ∈ S ∨ w.heap.size ≤ x) (h2 : Wrote w1 w2 wb B us S1) : Wrote w w2 wb B us S := by
  obtain ⟨S2, hw, k2, hs2⟩ := h2
  refine ⟨S2, hw, k1.trans k2 hS1, fun x hx => ?_⟩
  rcases hs2 x hx with h | h
  · exact hS1 x h
  · exact Or.inr (Nat.le_trans k1.size h)
theorem Wrote.refl {w : World} {wb B : Nat} {zs : List Int} {S : List Nat} (h : WAt w wb B zs S) : Wrote w w wb B zs S := ⟨S, h, Kept.refl _ _, fun _ hx => Or.inl hx⟩

/-- The world behind an append and the store of what it gave. -/
theorem wrote_of {w wa w1 : World} {wb B : Nat} {zs ys : List Int} {ao : Option Addr} {cap : Nat} {ao' : Option Addr} {cap' : Nat} (ka : Kept [] w wa) (hz : w.heap.size ≤ wa.heap.size)
    (hb : w.heap[wb]? = some (.cells #[.slice ao zs.length cap] 93 (0, 0)))
    (hne : (Value.slice ao zs.length cap).ownBlock ≠ some wb) (hoc : Octs zs) (hoy : Octs ys) (hB : B ≤ wb)
    (ho' : w1.ownsRow B 5 1 (.slice ao' (zs.length + ys.length) cap') (zs.length + ys.length) (zs.map (Value.int .u8) ++ ys.map (Value.int .u8))) (hgr : wa.grownBy w1 (Value.slice ao zs.length cap).ownBlock)
    (hat : (Value.slice ao' (zs.length + ys.length) cap').ownBlock = (Value.slice ao zs.length cap).ownBlock ∨ (Value.slice ao' (zs.length + ys.length) cap').ownBlock = some wa.heap.size) :
    Wrote w (w1.setCell ⟨wb, 0, none⟩ (.slice ao' (zs.length + ys.length) cap')) wb B (zs ++ ys) (wb :: (Value.slice ao zs.length cap).ownBlock.toList) := by
  have hlt := lt_of_block hb
  have hb1 : w1.heap[wb]? = some (.cells #[.slice ao zs.length cap] 93 (0, 0)) := (hgr.block wb (by omega) (Ne.symm hne)).trans (ka.heap hb (by simp))
  have hne' : (Value.slice ao' (zs.length + ys.length) cap').ownBlock ≠ some wb := by
    rcases hat with h | h
    · rw [h]; exact hne
    · rw [h]; simp; omega
  have hl : (zs ++ ys).length = zs.length + ys.length := List.length_append
  refine ⟨wb :: (Value.slice ao' (zs.length + ys.length) cap').ownBlock.toList, ⟨ao', cap', ?_, ?_, by rw [hl], by rw [hl]; exact hne', fun u hu => (List.mem_append.1 hu).elim (hoc u) (hoy u), hB⟩, ?_, ?_⟩
  · rw [hl]; exact one_setCell hb1
  · rw [hl, List.map_append]; exact ownsRow_setCell_other ho' hne' _
  · refine Kept.setCell ?_ (Or.inl (by simp)) _
    exact (ka.more (by simp)).grown hgr (fun k hk => Or.inl (by rw [hk]; simp))
  · intro x hx
    rcases List.mem_cons.1 hx with rfl | hx
    · exact Or.inl (by simp)
    · simp only [Option.mem_toList] at hx
      rcases hat with h | h
      · rw [h] at hx; exact Or.inl (by rw [hx]; simp)
      · rw [h] at hx; simp at hx; exact Or.inr (by omega)

set_option maxHeartbeats 1000000 in
theorem WRaw_any {w : World} {wb B : Nat} {zs : List Int} {S : List Nat} (h : WAt w wb B zs S) (hBw : B ≤ w.heap.size) (v : Value) (ys : List Int) (hv : BytesAt w v ys) (hoy : Octs ys) (hm : zs.length + ys.length ≤ 140737488355328) :
    Calls Tryz.prog 118 #[.pointer (some ⟨wb, 0, none⟩), v] w fun e w' => e = .returned (.tuple #[]) ∧ Wrote w w' wb B (zs ++ ys) S := by
  obtain ⟨ao, cap, hb, ho, rfl, hne, hoc, hB⟩ := h
  obtain ⟨i0, hi, hz0, hz1, hz2⟩ := info_parts Tryz.info_u8
  have hc := cell_of_one hb
  have hfr := free_of_one hb
  obtain ⟨so, sc, rfl, hsc, hsn, hcell⟩ := hv
  cases so with
  | none =>
    obtain rfl : ys = [] := by
      rcases ys with _ | ⟨y, ys⟩
      · rfl
      · obtain ⟨b, off, e, _⟩ := hcell (by simp); simp at e
    obtain rfl : sc = 0 := hsn rfl
    have hw : Wrote w (w.setCell ⟨wb, 0, none⟩ (.slice ao zs.length cap)) wb B (zs ++ []) (wb :: (Value.slice ao zs.length cap).ownBlock.toList) := by
      rw [List.append_nil]
      exact ⟨_, ⟨ao, cap, one_setCell hb, ownsRow_setCell_other ho hne _, rfl, hne, hoc, hB⟩, (Kept.refl _ _).setCell (Or.inl (by simp)) _, fun x hx => Or.inl hx⟩
    have HW : Hid (Wrote w (w.setCell ⟨wb, 0, none⟩ (.slice ao zs.length cap)) wb B (zs ++ []) (wb :: (Value.slice ao zs.length cap).ownBlock.toList)) := hw
    clear hw
    go_enter Tryz.func118, Tryz.ntmps118
    go_wp2_with (at_builtin; refine wpList_append_own_none rfl (.tmp 8) (.tmp 9) 26 rfl B 5 i0 1 Tryz.underlying26 hi _ _ _ rfl ho rfl ?_)
    go_end0
    exact ⟨rfl, by simpa using HW.out⟩
  | some sa =>
    have hnews : ∀ j u, (ys.map (Value.int .u8))[j]? = some u → w.cell? (sa.add j) = some u := by
      intro j u hu
      simp only [List.getElem?_map, Option.map_eq_some_iff] at hu
      obtain ⟨z, hz, rfl⟩ := hu
      obtain ⟨b, off, e, hh⟩ := hcell (by rintro rfl; simp at hz)
      simp only [Option.some.injEq] at e
      subst e
      rw [Addr.add_mid]
      exact hh j z hz
    obtain ⟨cs, hcs⟩ : ∃ cs, cs = ys.map (Value.int .u8) := ⟨_, rfl⟩
    have hcl : cs.length = ys.length * 1 := by rw [hcs]; simp
    have hco : ∀ u ∈ cs, u.oneCell' = true := by rw [hcs]; exact map_oneCell ys
    rw [← hcs] at hnews
    have HC : Hid (cs = ys.map (Value.int .u8)) := hcs
    clear hcs
    go_enter Tryz.func118, Tryz.ntmps118
    go_wp2_with (at_builtin; refine wpList_append_own_at _ rfl (.tmp 8) (.tmp 9) 26 rfl B 5 i0 (.int .u8 0) 1 1 Tryz.underlying26 hi hz0 hz1 hz2 rfl (by decide) (.slice ao zs.length cap) zs.length (zs.map (Value.int .u8)) rfl ho sa ys.length sc cs rfl hcl hnews hco (by unfold maxLen; omega) (by omega) hBw ?_; intro v' w1 ho' hgr hnil hat; obtain ⟨ao', cap', hv'⟩ := own_shape ho'; subst hv'; have hb1 : w1.heap[wb]? = some (.cells #[.slice ao zs.length cap] 93 (0, 0)) := (hgr.block wb (lt_of_block hb) (Ne.symm hne)).trans hb; have c1 := cell_of_one hb1; have f1 := free_of_one hb1; clear hb1 hnil)
    go_end0
    rw [HC.out] at ho'
    exact ⟨rfl, wrote_of (Kept.refl _ _) (Nat.le_refl _) hb hne hoc hoy hB ho' hgr hat⟩

end Go.Proofs.YtfcoeinhfdbcgaaGreatDoor

namespace Go.Proofs.YtfcoeinhfdbcgaaGreatDoor
open Go.RowKit

/-- A number in so many bytes, the highest first. -/
def fixedB (n : Int) (size : Nat) : List Int := (List.range size).map fun i => n / 256 ^ (size - 1 - i) % 256
theorem fixedB_len (n : Int) (size : Nat) : (fixedB n size).length = size := by simp [fixedB]
theorem fixedB_take (n : Int) (size k : Nat) (h : k < size) : (fixedB n size).take (k + 1) = (fixedB n size).take k ++ [n / 256 ^ (size - 1 - k) % 256] := by
  rw [List.take_succ_eq_append_getElem (by rw [fixedB_len]; exact h)]
  simp [fixedB]
theorem fixedB_octs (n : Int) (size : Nat) : Octs (fixedB n size) := by
  intro u hu
  simp only [fixedB, List.mem_map] at hu
  obtain ⟨i, _, rfl⟩ := hu
  omega

theorem byte_of (n : Int) (j : Nat) : IntKind.u8.wrap (n / 2 ^ (8 * (j : Int)).toNat) = n / 256 ^ j % 256 := by
  rw [show (8 * (j : Int)).toNat = 8 * j by omega, IntKind.wrap_u8', show (256 : Int) = 2 ^ 8 by decide, ← Int.pow_mul]

end Go.Proofs.YtfcoeinhfdbcgaaGreatDoor

namespace Go.Proofs.YtfcoeinhfdbcgaaGreatDoor
open Go.RowKit

theorem bitLen_way (x y : Int) (s D : Nat) (hD : D = 2 ^ s) (hy : y = x / D) (h0 : 0 ≤ x) (h1 : x ≤ 18446744073709551615) (hlo : (D : Int) ≤ x) (hup : y ≤ 255) : (s : Int) + Lib.len8 y = (Lib.bitLen x.toNat : Int) := by
  have hy0 : 0 ≤ y := by rw [hy]; exact Int.ediv_nonneg h0 (by omega)
  have hp : (2 : Nat) ^ 64 = 18446744073709551616 := by decide
  rw [Lib.len8_of y hy0 hup, Lib.bitLen_shift s x.toNat (by rw [← hD]; omega) (by omega)]
  rw [hy, ← hD]
  have : (x / (D : Int)).toNat = x.toNat / D := by
    obtain ⟨n, rfl⟩ := Int.eq_ofNat_of_zero_le h0
    rw [← Int.natCast_ediv]
    rfl
  rw [this]
  omega

theorem bitLenAux_spec : ∀ (f x : Nat), 1 ≤ x → x < 2 ^ f → 1 ≤ Lib.bitLenAux f x ∧ 2 ^ (Lib.bitLenAux f x - 1) ≤ x ∧ x < 2 ^ Lib.bitLenAux f x := by
  intro f
  induction f with
  | zero => intro x h1 h2; simp at h2; omega
  | succ f ih =>
    intro x h1 h2
    by_cases hx : x / 2 = 0
    · have : x = 1 := by omega
      subst this
      have e : Lib.bitLenAux (f + 1) 1 = 1 := by
        unfold Lib.bitLenAux
        cases f <;> simp [Lib.bitLenAux]
      rw [e]
      simp
    · have h3 := ih (x / 2) (by omega) (by rw [Nat.pow_succ] at h2; omega)
      have e : Lib.bitLenAux (f + 1) x = 1 + Lib.bitLenAux f (x / 2) := by
        conv => lhs; unfold Lib.bitLenAux
        rw [if_neg (by omega)]
      obtain ⟨t, ht⟩ : ∃ t, Lib.bitLenAux f (x / 2) = t + 1 := ⟨Lib.bitLenAux f (x / 2) - 1, by omega⟩
      rw [e, ht]
      rw [ht] at h3
      simp only [Nat.add_sub_cancel] at h3
      rw [show 1 + (t + 1) - 1 = t + 1 by omega, show 1 + (t + 1) = t + 1 + 1 by omega, Nat.pow_succ, Nat.pow_succ 2 (t + 1)]
      rw [Nat.pow_succ] at h3 ⊢
      omega
theorem bitLen_spec (x : Nat) (h1 : 1 ≤ x) (h2 : x ≤ 18446744073709551615) : 1 ≤ Lib.bitLen x ∧ 2 ^ (Lib.bitLen x - 1) ≤ x ∧ x < 2 ^ Lib.bitLen x ∧ Lib.bitLen x ≤ 64 := by
  have hp : (2 : Nat) ^ 64 = 18446744073709551616 := by decide
  have h := bitLenAux_spec 64 x h1 (by omega)
  exact ⟨h.1, h.2.1, h.2.2, Lib.bitLen_le x 64 (by decide) (by omega)⟩

set_option maxHeartbeats 400000 in
set_option maxRecDepth 100000 in
theorem Len64_0 (x : Int) (w : World) (h0 : 0 ≤ x) (h1 : x ≤ 255) : Calls Tryz.prog 125 #[.int .u64 x] w fun e w' => e = .returned (.int .i64 (Lib.bitLen x.toNat)) ∧ w' = w := by
  have l0 := Lib.len8_of x (by omega) (by omega)
  have l1 := Lib.bitLen_le8' x (by omega) (by omega)
  have hix := fun w => Lib.run_index_len8tab (P := Tryz.prog) w 9 .u8 x Tryz.underlying9 (by omega) (by omega)
  rw [l0] at hix
  clear l0
  go_enter Tryz.func125, Tryz.ntmps125
  go_wp2
  go_ret
  exact ⟨rfl, rfl⟩

set_option maxHeartbeats 400000 in
set_option maxRecDepth 100000 in
theorem Len64_8 (x : Int) (w : World) (h0 : 256 ≤ x) (h1 : x ≤ 65535) : Calls Tryz.prog 125 #[.int .u64 x] w fun e w' => e = .returned (.int .i64 (Lib.bitLen x.toNat)) ∧ w' = w := by
  obtain ⟨y, hy⟩ : ∃ y, y = x / 256 := ⟨_, rfl⟩
  have hb := bitLen_way x y 8 256 (by decide) hy (by omega) (by omega) h0 (by omega)
  have y0 : 0 ≤ y := by omega
  have y1 : y ≤ 255 := by omega
  have q : x / 256 = y := by omega
  have l0 := Lib.len8_of y y0 y1
  have l1 := Lib.bitLen_le8' y y0 y1
  have hix := fun w => Lib.run_index_len8tab (P := Tryz.prog) w 9 .u8 y Tryz.underlying9 y0 y1
  rw [l0] at hix hb
  have HB : Hid ((8 : Int) + (Lib.bitLen y.toNat : Int) = (Lib.bitLen x.toNat : Int)) := hb
  clear l0 hb hy
  go_enter Tryz.func125, Tryz.ntmps125
  go_wp2
  go_ret
  exact ⟨congrArg Ending.returned (congrArg (Value.int IntKind.i64) HB.out), rfl⟩

set_option maxHeartbeats 400000 in
set_option maxRecDepth 100000 in
theorem Len64_16 (x : Int) (w : World) (h0 : 65536 ≤ x) (h1 : x ≤ 16777215) : Calls Tryz.prog 125 #[.int .u64 x] w fun e w' => e = .returned (.int .i64 (Lib.bitLen x.toNat)) ∧ w' = w := by
  obtain ⟨y, hy⟩ : ∃ y, y = x / 65536 := ⟨_, rfl⟩
  have hb := bitLen_way x y 16 65536 (by decide) hy (by omega) (by omega) h0 (by omega)
  have y0 : 0 ≤ y := by omega
  have y1 : y ≤ 255 := by omega
  have q : x / 65536 = y := by omega
  have l0 := Lib.len8_of y y0 y1
  have l1 := Lib.bitLen_le8' y y0 y1
  have hix := fun w => Lib.run_index_len8tab (P := Tryz.prog) w 9 .u8 y Tryz.underlying9 y0 y1
  rw [l0] at hix hb
  have HB : Hid ((16 : Int) + (Lib.bitLen y.toNat : Int) = (Lib.bitLen x.toNat : Int)) := hb
  clear l0 hb hy
  go_enter Tryz.func125, Tryz.ntmps125
  go_wp2
  go_ret
  exact ⟨congrArg Ending.returned (congrArg (Value.int IntKind.i64) HB.out), rfl⟩

set_option maxHeartbeats 400000 in
set_option maxRecDepth 100000 in
theorem Len64_24 (x : Int) (w : World) (h0 : 16777216 ≤ x) (h1 : x ≤ 4294967295) : Calls Tryz.prog 125 #[.int .u64 x] w fun e w' => e = .returned (.int .i64 (Lib.bitLen x.toNat)) ∧ w' = w := by
  obtain ⟨y, hy⟩ : ∃ y, y = x / 16777216 := ⟨_, rfl⟩
  have hb := bitLen_way x y 24 16777216 (by decide) hy (by omega) (by omega) h0 (by omega)
  have y0 : 0 ≤ y := by omega
  have y1 : y ≤ 255 := by omega
  have q : x / 65536 / 256 = y := by omega
  have l0 := Lib.len8_of y y0 y1
  have l1 := Lib.bitLen_le8' y y0 y1
  have hix := fun w => Lib.run_index_len8tab (P := Tryz.prog) w 9 .u8 y Tryz.underlying9 y0 y1
  rw [l0] at hix hb
  have HB : Hid ((24 : Int) + (Lib.bitLen y.toNat : Int) = (Lib.bitLen x.toNat : Int)) := hb
  clear l0 hb hy
  go_enter Tryz.func125, Tryz.ntmps125
  go_wp2
  go_ret
  exact ⟨congrArg Ending.returned (congrArg (Value.int IntKind.i64) HB.out), rfl⟩

set_option maxHeartbeats 400000 in
set_option maxRecDepth 100000 in
theorem Len64_32 (x : Int) (w : World) (h0 : 4294967296 ≤ x) (h1 : x ≤ 1099511627775) : Calls Tryz.prog 125 #[.int .u64 x] w fun e w' => e = .returned (.int .i64 (Lib.bitLen x.toNat)) ∧ w' = w := by
  obtain ⟨y, hy⟩ : ∃ y, y = x / 4294967296 := ⟨_, rfl⟩
  have hb := bitLen_way x y 32 4294967296 (by decide) hy (by omega) (by omega) h0 (by omega)
  have y0 : 0 ≤ y := by omega
  have y1 : y ≤ 255 := by omega
  have q : x / 4294967296 = y := by omega
  have l0 := Lib.len8_of y y0 y1
  have l1 := Lib.bitLen_le8' y y0 y1
  have hix := fun w => Lib.run_index_len8tab (P := Tryz.prog) w 9 .u8 y Tryz.underlying9 y0 y1
  rw [l0] at hix hb
  have HB : Hid ((32 : Int) + (Lib.bitLen y.toNat : Int) = (Lib.bitLen x.toNat : Int)) := hb
  clear l0 hb hy
  go_enter Tryz.func125, Tryz.ntmps125
  go_wp2
  go_ret
  exact ⟨congrArg Ending.returned (congrArg (Value.int IntKind.i64) HB.out), rfl⟩

set_option maxHeartbeats 400000 in
set_option maxRecDepth 100000 in
theorem Len64_40 (x : Int) (w : World) (h0 : 1099511627776 ≤ x) (h1 : x ≤ 281474976710655) : Calls Tryz.prog 125 #[.int .u64 x] w fun e w' => e = .returned (.int .i64 (Lib.bitLen x.toNat)) ∧ w' = w := by
  obtain ⟨y, hy⟩ : ∃ y, y = x / 1099511627776 := ⟨_, rfl⟩
  have hb := bitLen_way x y 40 1099511627776 (by decide) hy (by omega) (by omega) h0 (by omega)
  have y0 : 0 ≤ y := by omega
  have y1 : y ≤ 255 := by omega
  have q : x / 4294967296 / 256 = y := by omega
  have l0 := Lib.len8_of y y0 y1
  have l1 := Lib.bitLen_le8' y y0 y1
  have hix := fun w => Lib.run_index_len8tab (P := Tryz.prog) w 9 .u8 y Tryz.underlying9 y0 y1
  rw [l0] at hix hb
  have HB : Hid ((40 : Int) + (Lib.bitLen y.toNat : Int) = (Lib.bitLen x.toNat : Int)) := hb
  clear l0 hb hy
  go_enter Tryz.func125, Tryz.ntmps125
  go_wp2
  go_ret
  exact ⟨congrArg Ending.returned (congrArg (Value.int IntKind.i64) HB.out), rfl⟩

set_option maxHeartbeats 400000 in
set_option maxRecDepth 100000 in
theorem Len64_48 (x : Int) (w : World) (h0 : 281474976710656 ≤ x) (h1 : x ≤ 72057594037927935) : Calls Tryz.prog 125 #[.int .u64 x] w fun e w' => e = .returned (.int .i64 (Lib.bitLen x.toNat)) ∧ w' = w := by
  obtain ⟨y, hy⟩ : ∃ y, y = x / 281474976710656 := ⟨_, rfl⟩
  have hb := bitLen_way x y 48 281474976710656 (by decide) hy (by omega) (by omega) h0 (by omega)
  have y0 : 0 ≤ y := by omega
  have y1 : y ≤ 255 := by omega
  have q : x / 4294967296 / 65536 = y := by omega
  have l0 := Lib.len8_of y y0 y1
  have l1 := Lib.bitLen_le8' y y0 y1
  have hix := fun w => Lib.run_index_len8tab (P := Tryz.prog) w 9 .u8 y Tryz.underlying9 y0 y1
  rw [l0] at hix hb
  have HB : Hid ((48 : Int) + (Lib.bitLen y.toNat : Int) = (Lib.bitLen x.toNat : Int)) := hb
  clear l0 hb hy
  go_enter Tryz.func125, Tryz.ntmps125
  go_wp2
  go_ret
  exact ⟨congrArg Ending.returned (congrArg (Value.int IntKind.i64) HB.out), rfl⟩

set_option maxHeartbeats 400000 in
set_option maxRecDepth 100000 in
theorem Len64_56 (x : Int) (w : World) (h0 : 72057594037927936 ≤ x) (h1 : x ≤ 18446744073709551615) : Calls Tryz.prog 125 #[.int .u64 x] w fun e w' => e = .returned (.int .i64 (Lib.bitLen x.toNat)) ∧ w' = w := by
  obtain ⟨y, hy⟩ : ∃ y, y = x / 72057594037927936 := ⟨_, rfl⟩
  have hb := bitLen_way x y 56 72057594037927936 (by decide) hy (by omega) (by omega) h0 (by omega)
  have y0 : 0 ≤ y := by omega
  have y1 : y ≤ 255 := by omega
  have q : x / 4294967296 / 65536 / 256 = y := by omega
  have l0 := Lib.len8_of y y0 y1
  have l1 := Lib.bitLen_le8' y y0 y1
  have hix := fun w => Lib.run_index_len8tab (P := Tryz.prog) w 9 .u8 y Tryz.underlying9 y0 y1
  rw [l0] at hix hb
  have HB : Hid ((56 : Int) + (Lib.bitLen y.toNat : Int) = (Lib.bitLen x.toNat : Int)) := hb
  clear l0 hb hy
  go_enter Tryz.func125, Tryz.ntmps125
  go_wp2
  go_ret
  exact ⟨congrArg Ending.returned (congrArg (Value.int IntKind.i64) HB.out), rfl⟩

theorem Len64_any (x : Int) (w : World) (h0 : 0 ≤ x) (h1 : x ≤ 18446744073709551615) :
    Calls Tryz.prog 125 #[.int .u64 x] w fun e w' => e = .returned (.int .i64 (Lib.bitLen x.toNat)) ∧ w' = w := by
  by_cases g0 : x ≤ 255
  · exact Len64_0 x w (by omega) g0
  by_cases g8 : x ≤ 65535
  · exact Len64_8 x w (by omega) g8
  by_cases g16 : x ≤ 16777215
  · exact Len64_16 x w (by omega) g16
  by_cases g24 : x ≤ 4294967295
  · exact Len64_24 x w (by omega) g24
  by_cases g32 : x ≤ 1099511627775
  · exact Len64_32 x w (by omega) g32
  by_cases g40 : x ≤ 281474976710655
  · exact Len64_40 x w (by omega) g40
  by_cases g48 : x ≤ 72057594037927935
  · exact Len64_48 x w (by omega) g48
  exact Len64_56 x w (by omega) h1

end Go.Proofs.YtfcoeinhfdbcgaaGreatDoor

namespace Go.Proofs.YtfcoeinhfdbcgaaGreatDoor
open Go.RowKit

theorem BytesAt.conv {w : World} {v : Value} {ys : List Int} (h : BytesAt w v ys) : (convert 26 9 v).run Tryz.prog w = .ok (.string (strOfNums ys)) w := by
  obtain ⟨ao, cap, rfl, hc, hnil, hcell⟩ := h
  by_cases hy : ys = []
  · subst hy
    cases ao with
    | none => exact run_convert_bytes_nil w _ 5 Tryz.underlying26 Tryz.underlying5 0 cap 9 Tryz.underlying9
    | some a =>
      have hl : (loadCells a 0).run Tryz.prog w = .ok (([] : List Int).map (Value.int .u8)).toArray w := run_loadCells_list (P := Tryz.prog) w a [] (fun j v hj => by simp at hj)
      rw [List.length_nil, run_convert_bytes_string w _ 9 5 _ 0 cap Tryz.underlying26 Tryz.underlying5 Tryz.underlying9, run_bytesToString w _ 0 cap [] hl]
      rfl
  · obtain ⟨b, off, rfl, hh⟩ := hcell hy
    refine run_convert_bytes_arg w _ 5 Tryz.underlying26 Tryz.underlying5 b off ys.length cap ys rfl (fun i hi => ?_) 9 Tryz.underlying9
    rw [hh i ys[i] (List.getElem?_eq_getElem hi)]
    simp [List.getD, List.getElem?_eq_getElem hi]

theorem strOfNums_inj {xs ys : List Int} (hx : Octs xs) (hy : Octs ys) : strOfNums xs = strOfNums ys ↔ xs = ys := by
  constructor
  · intro h
    have h1 : (strOfNums xs).data.toList = (strOfNums ys).data.toList := by rw [h]
    rw [strOfNums_data, strOfNums_data] at h1
    apply List.ext_getElem?
    intro i
    have h2 := congrArg (fun l => l[i]?) h1
    simp only [List.getElem?_map] at h2
    cases h3 : xs[i]? with
    | none =>
      rw [h3] at h2
      cases h4 : ys[i]? with
      | none => rfl
      | some b => rw [h4] at h2; simp at h2
    | some a =>
      rw [h3] at h2
      cases h4 : ys[i]? with
      | none => rw [h4] at h2; simp at h2
      | some b =>
        rw [h4] at h2
        simp only [Option.map_some, Option.some.injEq] at h2
        have ha := hx a (List.mem_of_getElem? h3)
        have hb := hy b (List.mem_of_getElem? h4)
        have h5 := congrArg UInt8.toNat h2
        simp only [UInt8.toNat_ofNat'] at h5
        congr 1
        omega
  · rintro rfl; rfl
end Go.Proofs.YtfcoeinhfdbcgaaGreatDoor

namespace Go.Proofs.YtfcoeinhfdbcgaaGreatDoor
open Go.RowKit

def setL (cur : Array Value) : Nat → List Value → Array Value
  | _, [] => cur
  | o, v :: r => setL (cur.setIfInBounds o v) (o + 1) r
theorem setL_spec : ∀ (vs : List Value) (o : Nat) (cur : Array Value), (setL cur o vs).size = cur.size ∧ ∀ k, (setL cur o vs)[k]? = if o ≤ k ∧ k < o + vs.length ∧ k < cur.size then vs[k - o]? else cur[k]?
  | [], o, cur => ⟨rfl, fun k => by rw [if_neg (by simp only [List.length_nil]; omega)]; rfl⟩
  | v :: r, o, cur => by
    obtain ⟨h1, h2⟩ := setL_spec r (o + 1) (cur.setIfInBounds o v)
    refine ⟨by unfold setL; rw [h1]; simp, fun k => ?_⟩
    unfold setL
    rw [h2 k]
    simp only [Array.size_setIfInBounds, List.length_cons]
    by_cases hk : o = k
    · subst hk
      rw [if_neg (by omega)]
      by_cases hs : o < cur.size
      · rw [if_pos ⟨Nat.le_refl _, by omega, hs⟩]
        simp [hs]
      · rw [if_neg (by omega)]
        simp [hs]
    · by_cases hin : o + 1 ≤ k ∧ k < o + 1 + r.length ∧ k < cur.size
      · rw [if_pos hin, if_pos (by omega)]
        have e : k - o = (k - (o + 1)) + 1 := by omega
        rw [e, List.getElem?_cons_succ]
      · rw [if_neg hin, if_neg (by omega)]
        simp [hk]
theorem setCells_heap (b : Nat) (t : TypeId) : ∀ (vs : List Value) (o : Nat) (w : World) (cur : Array Value), w.heap[b]? = some (.cells cur t (0, 0)) → (w.setCells b o vs).heap[b]? = some (.cells (setL cur o vs) t (0, 0))
  | [], _, _, _, h => h
  | v :: r, o, w, cur, h => by
    unfold World.setCells setL
    exact setCells_heap b t r (o + 1) _ _ (heap_setCell_same _ _ _ _ _ _ h)
theorem Kept.setCells {S : List Nat} {a : World} (b : Nat) (hp : b ∈ S ∨ a.heap.size ≤ b) : ∀ (vs : List Value) (o : Nat) (w : World), Kept S a w → Kept S a (w.setCells b o vs)
  | [], _, _, h => h
  | v :: r, o, w, h => by
    unfold World.setCells
    exact Kept.setCells b hp r (o + 1) _ (h.setCell hp v)


theorem flat_bind (k : Nat) (hk : 0 < k) : ∀ (rows : List (List Value)), (∀ r, r ∈ rows → r.length = k) → ∀ j : Nat, rows.flatten[j]? = (rows[j / k]?).bind fun r => r[j % k]?
  | [], _, j => by simp
  | r :: rs, h, j => by
    have hr := h r (by simp)
    rw [List.flatten_cons]
    by_cases hj : j < k
    · rw [List.getElem?_append_left (by omega), Nat.div_eq_of_lt hj, Nat.mod_eq_of_lt hj]
      rfl
    · have hd : j / k = (j - k) / k + 1 := by rw [Nat.div_eq_sub_div hk (by omega)]
      have hm : j % k = (j - k) % k := Nat.mod_eq_sub_mod (by omega)
      rw [List.getElem?_append_right (by omega), hr, hd, hm, List.getElem?_cons_succ]
      exact flat_bind k hk rs (fun x hx => h x (by simp [hx])) (j - k)
theorem flat_len (k : Nat) : ∀ (rows : List (List Value)), (∀ r, r ∈ rows → r.length = k) → rows.flatten.length = rows.length * k
  | [], _ => by simp
  | r :: rs, h => by
    rw [List.flatten_cons, List.length_append, h r (by simp), flat_len k rs (fun x hx => h x (by simp [hx])), List.length_cons, Nat.succ_mul]
    omega

/-- A row of which a part is written anew. -/
def putL (r : List Value) (o : Nat) (vs : List Value) : List Value := r.take o ++ vs ++ r.drop (o + vs.length)
theorem putL_len {r : List Value} {o : Nat} {vs : List Value} (h : o + vs.length ≤ r.length) : (putL r o vs).length = r.length := by
  unfold putL
  simp only [List.length_append, List.length_take, List.length_drop]
  omega
theorem putL_get {r : List Value} {o : Nat} {vs : List Value} (h : o + vs.length ≤ r.length) (j : Nat) : (putL r o vs)[j]? = if o ≤ j ∧ j < o + vs.length then vs[j - o]? else r[j]? := by
  unfold putL
  have hl : (r.take o).length = o := by rw [List.length_take]; omega
  by_cases h1 : j < o
  · rw [if_neg (by omega), List.append_assoc, List.getElem?_append_left (by omega), List.getElem?_take_of_lt h1]
  · by_cases h2 : j < o + vs.length
    · rw [if_pos ⟨by omega, h2⟩, List.append_assoc, List.getElem?_append_right (by omega), hl, List.getElem?_append_left (by omega)]
    · rw [if_neg (by omega), List.getElem?_append_right (by simp only [List.length_append, hl]; omega), List.getElem?_drop]
      congr 1
      simp only [List.length_append, hl]
      omega
theorem rows_put (k : Nat) (hk : 0 < k) (rows : List (List Value)) (h : ∀ r, r ∈ rows → r.length = k) (i : Nat) (r : List Value) (hi : rows[i]? = some r) (o : Nat) (vs : List Value) (ho : o + vs.length ≤ k) :
    setL rows.flatten.toArray (i * k + o) vs = (rows.set i (putL r o vs)).flatten.toArray := by
  have hil : i < rows.length := (List.getElem?_eq_some_iff.1 hi).1
  have hrk := h r (List.mem_of_getElem? hi)
  have h' : ∀ x, x ∈ rows.set i (putL r o vs) → x.length = k := fun x hx => by
    rcases List.mem_or_eq_of_mem_set hx with hm | rfl
    · exact h x hm
    · rw [putL_len (by omega)]; exact hrk
  obtain ⟨s1, s2⟩ := setL_spec vs (i * k + o) rows.flatten.toArray
  apply Array.ext_getElem?
  intro j
  have e1 : (rows.set i (putL r o vs)).flatten.toArray[j]? = (rows.set i (putL r o vs)).flatten[j]? := by simp
  have e2 : rows.flatten.toArray[j]? = rows.flatten[j]? := by simp
  rw [s2 j, e1, e2, flat_bind k hk _ h', flat_bind k hk _ h, List.size_toArray, flat_len k rows h]
  have hdm := Nat.div_add_mod j k
  have hml := Nat.mod_lt j hk
  by_cases hj : j / k = i
  · have hik : k * (j / k) = i * k := by rw [hj, Nat.mul_comm]
    have hin : i * k + k ≤ rows.length * k := by
      have := Nat.mul_le_mul_right k (by omega : i + 1 ≤ rows.length)
      rw [Nat.succ_mul] at this
      exact this
    rw [hj, List.getElem?_set_self hil, hi, Option.bind_some, Option.bind_some, putL_get (by omega)]
    by_cases hc : o ≤ j % k ∧ j % k < o + vs.length
    · rw [if_pos hc, if_pos ⟨by omega, by omega, by omega⟩]
      congr 1
      omega
    · rw [if_neg hc, if_neg (by omega)]
  · rw [List.getElem?_set_ne (Ne.symm hj)]
    by_cases hc : i * k + o ≤ j ∧ j < i * k + o + vs.length ∧ j < rows.length * k
    · exfalso
      apply hj
      exact Nat.div_eq_of_lt_le (by omega) (by rw [Nat.succ_mul]; omega)
    · rw [if_neg hc]

/-- The block g is just these rows. -/
def RowsIn (w : World) (g : Nat) (t : TypeId) (rows : List (List Value)) : Prop := w.heap[g]? = some (.cells rows.flatten.toArray t (0, 0))
theorem RowsIn.kept {w w' : World} {g : Nat} {t : TypeId} {rows : List (List Value)} {T : List Nat} (h : RowsIn w g t rows) (q : Kept T w w') (hn : g ∉ T) : RowsIn w' g t rows := q.heap h hn
theorem RowsIn.range {w : World} {g : Nat} {t : TypeId} {rows : List (List Value)} (h : RowsIn w g t rows) (k : Nat) (hk : 0 < k) (hr : ∀ r, r ∈ rows → r.length = k) (i : Nat) (r : List Value) (hi : rows[i]? = some r) : w.rangeAt g (i * k) r := fun j v hj => by
  have hjl : j < k := by
    have := (List.getElem?_eq_some_iff.1 hj).1
    rw [hr r (List.mem_of_getElem? hi)] at this
    exact this
  have e : rows.flatten.toArray[i * k + j]? = rows.flatten[i * k + j]? := by simp
  rw [cell_of_row _ _ _ _ _ _ h, e, flat_bind k hk rows hr, show (i * k + j) / k = i from Nat.div_eq_of_lt_le (by omega) (by rw [Nat.succ_mul]; omega), hi, Option.bind_some, Nat.mul_comm, Nat.mul_add_mod, Nat.mod_eq_of_lt hjl]
  exact hj
theorem RowsIn.put {w : World} {g : Nat} {t : TypeId} {rows : List (List Value)} (h : RowsIn w g t rows) (k : Nat) (hk : 0 < k) (hr : ∀ r, r ∈ rows → r.length = k) (i : Nat) (r : List Value) (hi : rows[i]? = some r) (o : Nat) (vs : List Value) (ho : o + vs.length ≤ k) :
    RowsIn (w.setCells g (i * k + o) vs) g t (rows.set i (putL r o vs)) := by
  unfold RowsIn
  rw [setCells_heap g t vs _ w _ h, rows_put k hk rows hr i r hi o vs ho]
theorem RowsIn.put1 {w : World} {g : Nat} {t : TypeId} {rows : List (List Value)} (h : RowsIn w g t rows) (k : Nat) (hk : 0 < k) (hr : ∀ r, r ∈ rows → r.length = k) (i : Nat) (r : List Value) (hi : rows[i]? = some r) (o : Nat) (v : Value) (ho : o < k) :
    RowsIn (w.setCell ⟨g, i * k + o, none⟩ v) g t (rows.set i (putL r o [v])) := h.put k hk hr i r hi o [v] (by show o + 1 ≤ k; omega)
theorem RowsIn.there {w : World} {g : Nat} {t : TypeId} {rows : List (List Value)} (h : RowsIn w g t rows) (k : Nat) (hk : 0 < k) (hr : ∀ r, r ∈ rows → r.length = k) (i : Nat) (r : List Value) (hi : rows[i]? = some r) (o n : Nat) (ho : o + n ≤ k) : w.there g (i * k + o) n := fun j hj => by
  have hrk := hr r (List.mem_of_getElem? hi)
  have hR := h.range k hk hr i r hi (o + j) _ (List.getElem?_eq_getElem (by omega))
  refine ⟨?_, frozen_of_row w g _ _ _ h⟩
  rw [show i * k + o + j = i * k + (o + j) by omega, hR]
  rfl
theorem RowsIn.frozen {w : World} {g : Nat} {t : TypeId} {rows : List (List Value)} (h : RowsIn w g t rows) (i : Nat) : w.frozen? ⟨g, i, none⟩ = false := frozen_of_row w g _ _ _ h
theorem made_rows (z : List Value) (k n : Nat) (hk : 0 < k) (hz : z.length = k) : madeCells z.toArray (n * k) = (List.replicate n z).flatten.toArray := by
  apply Array.ext_getElem?
  intro j
  have e : (List.replicate n z).flatten.toArray[j]? = (List.replicate n z).flatten[j]? := by simp
  rw [e, flat_bind k hk _ (fun r hr => by rw [(List.mem_replicate.1 hr).2]; exact hz)]
  unfold madeCells
  rw [Array.getElem?_map]
  have hml := Nat.mod_lt j hk
  by_cases hj : j < n * k
  · have hd : j / k < n := Nat.div_lt_of_lt_mul (by rw [Nat.mul_comm]; exact hj)
    rw [List.getElem?_replicate, if_pos hd, Option.bind_some]
    simp [hj, hz, hml]
  · have hd : ¬ j / k < n := fun h => hj (by
      have h1 := Nat.div_add_mod j k
      have h2 : k * (j / k) + k ≤ k * n := by rw [← Nat.mul_succ]; exact Nat.mul_le_mul_left k h
      rw [Nat.mul_comm n k]
      omega)
    rw [List.getElem?_replicate, if_neg hd]
    simp [hj]
end Go.Proofs.YtfcoeinhfdbcgaaGreatDoor
