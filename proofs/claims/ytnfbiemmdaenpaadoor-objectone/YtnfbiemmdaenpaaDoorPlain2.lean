/-
  Ids as values, in memory, and lists of them.
  WALK: code.copied, for every slice of bytes: a new row that holds the same bytes.
  WALK: code.lookFixed, for every slice of bytes and size 1 to 8.
  WALK: code.lookVar, for every slice of bytes and bound.
  WALKS: code.lookFixed, lookVar, lookRaw, lookBytes and look, for every slice of bytes.
  PLAIN MATHEMATICS, continued: what is found lies within the bytes. No Go text is named here.
-/
import Derived.Test.YtnfbiemmdaenpaaDoorPlain
import Derived.Laws.BytesArg
import Derived.Laws.ResultCell
import Derived.Deep.MidRow
import Derived.Outline
namespace Go.Proofs.YtnfbiemmdaenpaaDoor
open Go.RowKit

/-- An id as a value. -/
def idC (bs : List Int) : Array Value := (bs.map (Value.int .u8)).toArray
theorem idC_get {bs : List Int} {j : Nat} (h : j < bs.length) : (idC bs)[j]? = some (.int .u8 (bs[j]?.getD 0)) := by
  unfold idC
  rw [← Array.getElem?_toList]
  simp [List.getElem?_eq_getElem h]
theorem row_bytes' {w : World} {q : Nat} {ys : List Int} (h : w.heap[q]? = some (.cells (ys.map (Value.int .u8)).toArray 5 (0, 0))) : BytesAt w (.slice (some ⟨q, 0, none⟩) ys.length ys.length) ys := by
  refine ⟨_, _, rfl, Nat.le_refl _, fun e => (by simp at e), fun _ => ⟨q, 0, rfl, fun i u hu => ?_⟩⟩
  rw [cell_of_row _ _ _ _ _ _ h, Nat.zero_add, ← Array.getElem?_toList]
  simp [hu]

theorem Tryd.infoID : (Tryd.prog.info? 25).map (·.size) = some 32 := by kernel_rfl
theorem idC_size {bs : List Int} (h : bs.length = 32) : (idC bs).size = 32 := by simp [idC, h]
def GoodID (xs : List Int) : Prop := xs.length = 32 ∧ Octs xs
/-- The zero id's bytes. -/
def zero32 : List Int := List.replicate 32 0
theorem kept_setRow {w wr : World} (h : Kept [] w wr) {g : Nat} (hg : w.heap.size ≤ g) (cs : Array Value) : Kept [] w (wr.setRow g cs) :=
  kept_of_below (below_setRow (h.below (Nat.le_refl _) (by simp)) hg cs)

theorem range_kept {w w' : World} {b o : Nat} {cs : List Value} {T : List Nat} (h : w.rangeAt b o cs) (k : Kept T w w') (hn : b ∉ T) : w'.rangeAt b o cs := fun j v hj => k.cell (h j v hj) hn
theorem range_box (w : World) (bs : List Int) (t : TypeId) : (w.alloc (.cells (idC bs) t)).rangeAt w.heap.size 0 (bs.map (Value.int .u8)) := fun j v hj => by
  rw [cell_of_row _ _ _ _ _ _ (heap_alloc_new w _), Nat.zero_add, ← Array.getElem?_toList]
  simpa [idC] using hj

/-- A list of ids lies so. -/
def IdsAt (w : World) (v : Value) (ids : List (List Int)) : Prop :=
  ∃ ao cap, v = .slice ao ids.length cap ∧ ids.length ≤ cap ∧ (ao = none → cap = 0) ∧ ids.length ≤ 140737488351232 ∧ (ids ≠ [] → ∃ b off, ao = some ⟨b, off, none⟩ ∧ ∀ (i : Nat) (xs : List Int), ids[i]? = some xs → w.rangeAt b (off + i * 32) (xs.map (Value.int .u8)))
theorem IdsAt.keep {w w' : World} {v : Value} {ids : List (List Int)} {T : List Nat} (h : IdsAt w v ids) (k : Kept T w w') (hn : ids ≠ [] → ∀ b, blkOf v = some b → b ∉ T) : IdsAt w' v ids := by
  obtain ⟨ao, cap, rfl, h1, h0, h2, hc⟩ := h
  refine ⟨ao, cap, rfl, h1, h0, h2, fun hne => ?_⟩
  obtain ⟨b, off, rfl, hh⟩ := hc hne
  exact ⟨b, off, rfl, fun i xs hi => range_kept (hh i xs hi) k (hn hne b rfl)⟩

end Go.Proofs.YtnfbiemmdaenpaaDoor

namespace Go.Proofs.YtnfbiemmdaenpaaDoor
open Go.RowKit

set_option maxHeartbeats 400000 in
theorem copied_any (v : Value) (ys : List Int) (w : World) (h : BytesAt w v ys) (hm : ys.length ≤ 140737488355328) :
    Calls Tryd.prog 32 #[v] w fun e w' => e = .returned (.slice (some ⟨w.heap.size, 0, none⟩) ys.length ys.length) ∧
      w'.heap[w.heap.size]? = some (.cells (ys.map (Value.int .u8)).toArray 5 (0, 0)) ∧ Kept [] w w' := by
  obtain ⟨ao, cap, rfl, hc, hnil, hcell⟩ := h
  have hmk := run_make_row' (P := Tryd.prog) 22 5 (.int .u8 0) 1 Tryd.underlying22 Tryd.info_u8 rfl .i64 .i64 ys.length (by omega) (by omega)
  obtain ⟨cs, hcs⟩ : ∃ cs, cs = ys.map (Value.int .u8) := ⟨_, rfl⟩
  have HC : Hid (cs = ys.map (Value.int .u8)) := hcs
  clear hcs
  go_enter Tryd.func32, Tryd.ntmps32
  go_wp2_with (refine wpList_copy_splice rfl (.tmp 7) (.tmp 8) 22 22 rfl 5 Tryd.underlying22 Tryd.size_u8 _ _ _ _ _ _ rfl rfl w.heap.size 0 (List.replicate ys.length (.int .u8 0)) 5 ?cg cs ?cn ?cp ?cf ?co w.heap.size w ?cb (Nat.le_refl _) ?_)
  case cg => rw [← toList_madeCells_one]; exact heap_alloc_new w _
  case cn => rw [HC.out]; simp
  case cp =>
    intro h0
    rw [HC.out] at h0
    obtain ⟨b, off, rfl, hh⟩ := hcell (by rintro rfl; simp at h0)
    refine ⟨_, rfl, fun j u hu => ?_⟩
    rw [HC.out] at hu
    simp only [List.getElem?_map, Option.map_eq_some_iff] at hu
    obtain ⟨z, hz, rfl⟩ := hu
    rw [Addr.add_mid, World.cell?_alloc_lt]
    · exact hh j z hz
    · exact World.block_lt_of_cell? w _ (hh j z hz)
  case cf => rw [HC.out]; simp
  case co => rw [HC.out]; exact map_oneCell ys
  case cb => exact (Below.refl _ _).alloc (Nat.le_refl _) _
  intro w2 hg hb
  go_wp2
  go_ret
  refine ⟨rfl, ?_, kept_of_below hb⟩
  rw [hg.out, splice_all _ _ _ (by rw [HC.out]; simp), HC.out]

end Go.Proofs.YtnfbiemmdaenpaaDoor

namespace Go.Proofs.YtnfbiemmdaenpaaDoor
open Go.RowKit

set_option maxHeartbeats 400000 in
theorem lookFixed_yes (b off cap : Nat) (ys : List Int) (size : Nat) (w : World) (hs0 : 1 ≤ size) (hs : size ≤ 8) (hlen : size ≤ ys.length) (hm : ys.length ≤ 140737488355328) (ho : Octs ys)
    (hcell : ∀ i, i < ys.length → w.cell? ⟨b, off + i, none⟩ = some (.int .u8 (ys[i]?.getD 0))) :
    Calls Tryd.prog 73 #[.slice (some ⟨b, off, none⟩) ys.length cap, .int .i64 size] w fun e w' =>
      e = .returned (.tuple #[.agg #[.int .u64 (be (ys.take size)), .int .i64 size, .int .i64 size], .int .i64 0]) ∧ Kept [] w w' := by
  go_enter Tryd.func73, Tryd.ntmps73
  go_wp2
  go_loop [6, 14] (fun n i => ∃ k : Nat, k ≤ size ∧ i = .int .i64 k ∧ n = .int .u64 (be (ys.take k))) (fun _ i => size - (intOf i).toNat)
  case atStart => exact ⟨0, Nat.zero_le _, rfl, rfl⟩
  case round =>
    obtain ⟨k, hk, rfl, rfl⟩ := hrel
    by_cases hlt : k < size
    · have hb := be_le8 (ys.take k) (octs_take ho k) (by simp; omega)
      have hx := octs_getD ho k
      have hc : (w.alloc (.cells #[.int .u64 0, .int .i64 0, .int .i64 0] 125)).cell? ⟨b, off + k, none⟩ = some (.int .u8 (ys[k]?.getD 0)) := by
        rw [World.cell?_alloc_lt]
        · exact hcell k (by omega)
        · exact World.block_lt_of_cell? w _ (hcell k (by omega))
      have hst := be_step (be (ys.take k)) (ys[k]?.getD 0) hb.1 hb.2 hx.1 hx.2
      have hsn := be_snoc (ys.take k) (ys[k]?.getD 0)
      have hts := take_snoc ys k (by omega)
      have HF : Hid (bits .or .u64 (be (ys.take k) * 256) (ys[k]?.getD 0) = be (ys.take (k + 1))) := by rw [hst, hts, ← hsn]; rfl
      clear hst hsn hts
      go_wp2
      go_round
      case rel => exact ⟨k + 1, by omega, by go_num, by rw [HF.out]⟩
      case measure => simp [intOf]; omega
    · obtain rfl : k = size := by omega
      go_wp2
      exact bodyPost_ret (v := .tuple #[.agg #[.int .u64 (be (ys.take k)), .int .i64 k, .int .i64 k], .int .i64 0]) (by simp [results, Tryd.results73, go_sem]) rfl ⟨rfl, (Kept.refl _ _).alloc _⟩

/-- The same where the bytes are too few. -/
theorem lookFixed_no (ao : Option Addr) (n cap : Nat) (size : Nat) (w : World) (hlen : n < size) :
    Calls Tryd.prog 73 #[.slice ao n cap, .int .i64 size] w fun e w' =>
      e = .returned (.tuple #[.agg #[.int .u64 0, .int .i64 0, .int .i64 0], .int .i64 1]) ∧ Kept [] w w' := by
  go_enter Tryd.func73, Tryd.ntmps73
  go_wp2
  exact bodyPost_ret (v := .tuple #[.agg #[.int .u64 0, .int .i64 0, .int .i64 0], .int .i64 1]) (by simp [results, Tryd.results73, go_sem]) rfl ⟨rfl, (Kept.refl _ _).alloc _⟩

end Go.Proofs.YtnfbiemmdaenpaaDoor

namespace Go.Proofs.YtnfbiemmdaenpaaDoor
open Go.RowKit

theorem lookVar_empty (ao : Option Addr) (cap : Nat) (most : Int) (w : World) :
    Calls Tryd.prog 74 #[.slice ao 0 cap, .int .u64 most] w fun e w' =>
      e = .returned (.tuple #[.agg #[.int .u64 0, .int .i64 0, .int .i64 0], .int .i64 1]) ∧ Kept [] w w' := by
  go_enter Tryd.func74, Tryd.ntmps74
  go_wp2
  refine wp_loop_rounds 1 ?_
  rw [rounds_succ]
  go_wp2
  exact bodyPost_ret (v := .tuple #[.agg #[.int .u64 0, .int .i64 0, .int .i64 0], .int .i64 1]) (by simp [results, Tryd.results74, go_sem]) rfl ⟨rfl, (Kept.refl _ _).alloc _⟩

set_option maxHeartbeats 1000000 in
theorem lookVar_some (b off cap : Nat) (ys : List Int) (most : Int) (w : World) (hm : ys.length ≤ 140737488355328) (ho : Octs ys)
    (hcell : ∀ i, i < ys.length → w.cell? ⟨b, off + i, none⟩ = some (.int .u8 (ys[i]?.getD 0))) (x : Fnd) (hx : Hid (x = varL ys most)) :
    Calls Tryd.prog 74 #[.slice (some ⟨b, off, none⟩) ys.length cap, .int .u64 most] w fun e w' =>
      e = .returned (.tuple #[.agg #[.int .u64 x.n, .int .i64 x.frm, .int .i64 x.to], .int .i64 x.f]) ∧ Kept [] w w' := by
  go_enter Tryd.func74, Tryd.ntmps74
  go_wp2
  go_loop [6, 8] (fun t i => ∃ k : Nat, ∃ n : Int, k ≤ 10 ∧ i = .int .i64 k ∧ t = .int .u64 n ∧ 0 ≤ n ∧ n < 128 ^ k ∧ Hid (x = varFrom most (10 - k) k n (ys.drop k))) (fun _ i => 10 - (intOf i).toNat)
  case atStart => exact ⟨0, 0, by omega, rfl, rfl, by omega, by decide, hx⟩
  case round =>
    obtain ⟨k, n, hk, rfl, rfl, hn0, hn1, HX⟩ := hrel
    by_cases hlt : k < 10
    · by_cases hkl : k < ys.length
      · have hxb := octs_getD ho k
        have hc : (w.alloc (.cells #[.int .u64 0, .int .i64 0, .int .i64 0] 125)).cell? ⟨b, off + k, none⟩ = some (.int .u8 (ys[k]?.getD 0)) := by
          rw [World.cell?_alloc_lt]
          · exact hcell k (by omega)
          · exact World.block_lt_of_cell? w _ (hcell k (by omega))
        obtain ⟨z, hz⟩ : ∃ z, z = ys[k]?.getD 0 := ⟨_, rfl⟩
        rw [← hz] at hc hxb
        have HZ : Hid (z = ys[k]?.getD 0) := hz
        clear hz
        have HO := vf_open (most := most) (n := n) hlt hkl HZ.out
        rw [← HX.out] at HO
        have HO' : Hid _ := HO
        clear HO HX HZ
        by_cases h128 : 128 ≤ z
        · have e1 := and128_hi z h128 (by omega)
          have e2 := andNot128_hi z h128 (by omega)
          by_cases hk9 : k = 9
          · subst hk9
            have ex : x = ⟨0, 0, 0, 2⟩ := by have := HO'.out; rwa [if_pos ⟨rfl, by omega⟩] at this
            have EX : Hid (x = ⟨0, 0, 0, 2⟩) := ex
            clear ex HO'
            go_wp2
            exact bodyPost_ret (v := .tuple #[.agg #[.int .u64 0, .int .i64 0, .int .i64 0], .int .i64 2]) (by simp [results, Tryd.results74, go_sem]) rfl ⟨by rw [EX.out]; rfl, (Kept.refl _ _).alloc _⟩
          · have ex : x = varFrom most (10 - (k + 1)) (k + 1) (n + (z - 128) * 128 ^ k) (ys.drop (k + 1)) := by have := HO'.out; rwa [if_neg (by omega), if_pos h128] at this
            have EX : Hid _ := ex
            have EO : Hid _ := var_or k n (z - 128) hn0 hn1 (by omega) (by omega) (by omega)
            clear ex HO'
            go_wp2
            go_round
            case rel => exact ⟨k + 1, _, by omega, by go_num, by rw [EO.out], var_ge k n _ hn0 (by omega), var_lt k n _ hn1 (by omega), EX⟩
            case measure => simp [intOf]; omega
        · have e1 := and128_lo z hxb.1 (by omega)
          have e2 := andNot128_lo z hxb.1 (by omega)
          by_cases hk9 : 9 ≤ k
          · have hb9 : ((k : Int) == 9) = true := beq_iff_eq.2 (by omega)
            by_cases hz1 : 1 < z
            · have ex : x = ⟨0, 0, 0, 2⟩ := by have := HO'.out; rwa [if_pos ⟨by omega, hz1⟩] at this
              have EX : Hid (x = ⟨0, 0, 0, 2⟩) := ex
              clear ex HO'
              go_wp2
              exact bodyPost_ret (v := .tuple #[.agg #[.int .u64 0, .int .i64 0, .int .i64 0], .int .i64 2]) (by simp [results, Tryd.results74, go_sem]) rfl ⟨by rw [EX.out]; rfl, (Kept.refl _ _).alloc _⟩
            · by_cases hz0 : z = 0
              · subst hz0
                have ex : x = ⟨0, 0, 0, 2⟩ := by have := HO'.out; rwa [if_neg (by omega), if_neg h128, if_pos ⟨rfl, by omega⟩] at this
                have EX : Hid (x = ⟨0, 0, 0, 2⟩) := ex
                clear ex HO'
                go_wp2
                exact bodyPost_ret (v := .tuple #[.agg #[.int .u64 0, .int .i64 0, .int .i64 0], .int .i64 2]) (by simp [results, Tryd.results74, go_sem]) rfl ⟨by rw [EX.out]; rfl, (Kept.refl _ _).alloc _⟩
              · have hz2 : 1 ≤ z := by omega
                have hxk : x = if most < n + z * 128 ^ k then ⟨0, 0, 0, 3⟩ else ⟨n + z * 128 ^ k, k + 1, k + 1, 0⟩ := by have := HO'.out; rwa [if_neg (by omega), if_neg h128, if_neg (by omega)] at this
                have e3 := var_or k n z hn0 hn1 hxb.1 (by omega) (by omega)
                obtain ⟨m, hm'⟩ : ∃ m, m = n + z * 128 ^ k := ⟨_, rfl⟩
                rw [← hm'] at e3 hxk
                clear HO' hm' hn1
                by_cases hmost : most < m
                · rw [if_pos hmost] at hxk
                  have EX : Hid (x = ⟨0, 0, 0, 3⟩) := hxk
                  clear hxk
                  go_wp2
                  exact bodyPost_ret (v := .tuple #[.agg #[.int .u64 0, .int .i64 0, .int .i64 0], .int .i64 3]) (by simp [results, Tryd.results74, go_sem]) rfl ⟨by rw [EX.out]; rfl, (Kept.refl _ _).alloc _⟩
                · rw [if_neg hmost] at hxk
                  have EX : Hid (x = ⟨m, k + 1, k + 1, 0⟩) := hxk
                  clear hxk
                  go_wp2
                  exact bodyPost_ret (v := .tuple #[.agg #[.int .u64 m, .int .i64 (k + 1), .int .i64 (k + 1)], .int .i64 0]) (by simp [results, Tryd.results74, go_sem]) rfl ⟨by rw [EX.out]; rfl, (Kept.refl _ _).alloc _⟩
          · by_cases hz0 : z = 0
            · by_cases hk1 : 1 ≤ k
              · subst hz0
                have ex : x = ⟨0, 0, 0, 2⟩ := by have := HO'.out; rwa [if_neg (by omega), if_neg h128, if_pos ⟨rfl, by omega⟩] at this
                have EX : Hid (x = ⟨0, 0, 0, 2⟩) := ex
                clear ex HO'
                go_wp2
                exact bodyPost_ret (v := .tuple #[.agg #[.int .u64 0, .int .i64 0, .int .i64 0], .int .i64 2]) (by simp [results, Tryd.results74, go_sem]) rfl ⟨by rw [EX.out]; rfl, (Kept.refl _ _).alloc _⟩
              · have hbz : (z == 0) = true := beq_iff_eq.2 hz0
                have hz2 : z ≤ 0 := by omega
                have hk2 : k ≤ 0 := by omega
                clear hz0 hk1
                have hxk : x = if most < n + z * 128 ^ k then ⟨0, 0, 0, 3⟩ else ⟨n + z * 128 ^ k, k + 1, k + 1, 0⟩ := by have := HO'.out; rwa [if_neg (by omega), if_neg h128, if_neg (by omega)] at this
                have e3 := var_or k n z hn0 hn1 hxb.1 (by omega) (by omega)
                obtain ⟨m, hm'⟩ : ∃ m, m = n + z * 128 ^ k := ⟨_, rfl⟩
                rw [← hm'] at e3 hxk
                clear HO' hm' hn1
                by_cases hmost : most < m
                · rw [if_pos hmost] at hxk
                  have EX : Hid (x = ⟨0, 0, 0, 3⟩) := hxk
                  clear hxk
                  go_wp2
                  exact bodyPost_ret (v := .tuple #[.agg #[.int .u64 0, .int .i64 0, .int .i64 0], .int .i64 3]) (by simp [results, Tryd.results74, go_sem]) rfl ⟨by rw [EX.out]; rfl, (Kept.refl _ _).alloc _⟩
                · rw [if_neg hmost] at hxk
                  have EX : Hid (x = ⟨m, k + 1, k + 1, 0⟩) := hxk
                  clear hxk
                  go_wp2
                  exact bodyPost_ret (v := .tuple #[.agg #[.int .u64 m, .int .i64 (k + 1), .int .i64 (k + 1)], .int .i64 0]) (by simp [results, Tryd.results74, go_sem]) rfl ⟨by rw [EX.out]; rfl, (Kept.refl _ _).alloc _⟩
            · have hz1 : 1 ≤ z := by omega
              have hxk : x = if most < n + z * 128 ^ k then ⟨0, 0, 0, 3⟩ else ⟨n + z * 128 ^ k, k + 1, k + 1, 0⟩ := by have := HO'.out; rwa [if_neg (by omega), if_neg h128, if_neg (by omega)] at this
              have e3 := var_or k n z hn0 hn1 hxb.1 (by omega) (by omega)
              obtain ⟨m, hm'⟩ : ∃ m, m = n + z * 128 ^ k := ⟨_, rfl⟩
              rw [← hm'] at e3 hxk
              clear HO' hm' hn1
              by_cases hmost : most < m
              · rw [if_pos hmost] at hxk
                have EX : Hid (x = ⟨0, 0, 0, 3⟩) := hxk
                clear hxk
                go_wp2
                exact bodyPost_ret (v := .tuple #[.agg #[.int .u64 0, .int .i64 0, .int .i64 0], .int .i64 3]) (by simp [results, Tryd.results74, go_sem]) rfl ⟨by rw [EX.out]; rfl, (Kept.refl _ _).alloc _⟩
              · rw [if_neg hmost] at hxk
                have EX : Hid (x = ⟨m, k + 1, k + 1, 0⟩) := hxk
                clear hxk
                go_wp2
                exact bodyPost_ret (v := .tuple #[.agg #[.int .u64 m, .int .i64 (k + 1), .int .i64 (k + 1)], .int .i64 0]) (by simp [results, Tryd.results74, go_sem]) rfl ⟨by rw [EX.out]; rfl, (Kept.refl _ _).alloc _⟩
      · have ex := HX.out.trans (vf_short (most := most) (n := n) hlt (by omega))
        have EX : Hid (x = ⟨0, 0, 0, 1⟩) := ex
        clear ex HX
        go_wp2
        exact bodyPost_ret (v := .tuple #[.agg #[.int .u64 0, .int .i64 0, .int .i64 0], .int .i64 1]) (by simp [results, Tryd.results74, go_sem]) rfl ⟨by rw [EX.out]; rfl, (Kept.refl _ _).alloc _⟩
    · have ex := HX.out.trans (vf_end (most := most) (n := n) (by omega))
      have EX : Hid (x = ⟨0, 0, 0, 2⟩) := ex
      clear ex HX
      go_wp2
      exact bodyPost_ret (v := .tuple #[.agg #[.int .u64 0, .int .i64 0, .int .i64 0], .int .i64 2]) (by simp [results, Tryd.results74, go_sem]) rfl ⟨by rw [EX.out]; rfl, (Kept.refl _ _).alloc _⟩

end Go.Proofs.YtnfbiemmdaenpaaDoor

namespace Go.Proofs.YtnfbiemmdaenpaaDoor
open Go.RowKit

theorem lookVar_any (v : Value) (ys : List Int) (most : Int) (w : World) (h : BytesAt w v ys) (hm : ys.length ≤ 140737488355328) (ho : Octs ys) (x : Fnd) (hx : Hid (x = varL ys most)) :
    Calls Tryd.prog 74 #[v, .int .u64 most] w fun e w' =>
      e = .returned (.tuple #[.agg #[.int .u64 x.n, .int .i64 x.frm, .int .i64 x.to], .int .i64 x.f]) ∧ Kept [] w w' := by
  rcases h.parts with ⟨rfl, ao, cap, rfl⟩ | ⟨b, off, cap, rfl, hc, h0, hcell⟩
  · rw [hx.out]; exact lookVar_empty ao cap most w
  · exact lookVar_some b off cap ys most w hm ho hcell x hx

theorem lookFixed_any (v : Value) (ys : List Int) (size : Nat) (w : World) (h : BytesAt w v ys) (hm : ys.length ≤ 140737488355328) (ho : Octs ys) (hs0 : 1 ≤ size) (hs : size ≤ 8) (x : Fnd) (hx : Hid (x = fixedL ys size)) :
    Calls Tryd.prog 73 #[v, .int .i64 size] w fun e w' =>
      e = .returned (.tuple #[.agg #[.int .u64 x.n, .int .i64 x.frm, .int .i64 x.to], .int .i64 x.f]) ∧ Kept [] w w' := by
  by_cases hl : ys.length < size
  · obtain ⟨ao, cap, rfl, _⟩ := h
    have e : x = ⟨0, 0, 0, 1⟩ := by rw [hx.out]; simp [fixedL, hl]
    rw [e]; exact lookFixed_no ao ys.length cap size w hl
  · have e : x = ⟨be (ys.take size), size, size, 0⟩ := by rw [hx.out]; simp [fixedL, hl]
    rw [e]
    rcases h.parts with ⟨rfl, ao, cap, rfl⟩ | ⟨b, off, cap, rfl, hc, h0, hcell⟩
    · simp at hl; omega
    · exact lookFixed_yes b off cap ys size w hs0 hs (by omega) hm ho hcell

set_option maxHeartbeats 400000 in
theorem lookRaw_any (v : Value) (ys : List Int) (size : Int) (w : World) (h : BytesAt w v ys) (hs : size ≤ 9223372036854775807) (x : Fnd) (hx : Hid (x = rawL ys size)) :
    Calls Tryd.prog 76 #[v, .int .i64 size] w fun e w' =>
      e = .returned (.tuple #[.agg #[.int .u64 x.n, .int .i64 x.frm, .int .i64 x.to], .int .i64 x.f]) ∧ Kept [] w w' := by
  obtain ⟨ao, cap, rfl, _⟩ := h
  by_cases h0 : size < 0
  · have EX : Hid (x = ⟨0, 0, 0, 4⟩) := by rw [hx.out]; exact if_pos h0
    go_enter Tryd.func76, Tryd.ntmps76
    go_wp2
    exact bodyPost_ret (v := .tuple #[.agg #[.int .u64 0, .int .i64 0, .int .i64 0], .int .i64 4]) (by simp [results, Tryd.results76, go_sem]) rfl ⟨by rw [EX.out]; rfl, (Kept.refl _ _).alloc _⟩
  · by_cases h1 : (ys.length : Int) < size
    · have EX : Hid (x = ⟨0, 0, 0, 1⟩) := by rw [hx.out]; exact (if_neg h0).trans (if_pos h1)
      go_enter Tryd.func76, Tryd.ntmps76
      go_wp2
      exact bodyPost_ret (v := .tuple #[.agg #[.int .u64 0, .int .i64 0, .int .i64 0], .int .i64 1]) (by simp [results, Tryd.results76, go_sem]) rfl ⟨by rw [EX.out]; rfl, (Kept.refl _ _).alloc _⟩
    · have EX : Hid (x = ⟨0, 0, size.toNat, 0⟩) := by rw [hx.out]; exact (if_neg h0).trans (if_neg h1)
      have ES : Hid ((size.toNat : Int) = size) := by show _ = _; omega
      go_enter Tryd.func76, Tryd.ntmps76
      go_wp2
      exact bodyPost_ret (v := .tuple #[.agg #[.int .u64 0, .int .i64 0, .int .i64 size], .int .i64 0]) (by simp [results, Tryd.results76, go_sem]) rfl ⟨by rw [EX.out]; simp only [ES.out]; rfl, (Kept.refl _ _).alloc _⟩

set_option maxHeartbeats 1000000 in
theorem lookBytes_any (v : Value) (ys : List Int) (most : Int) (w : World) (h : BytesAt w v ys) (hm : ys.length ≤ 140737488355328) (ho : Octs ys) (x : Fnd) (hx : Hid (x = bytesL ys most)) :
    Calls Tryd.prog 75 #[v, .int .u64 most] w fun e w' =>
      e = .returned (.tuple #[.agg #[.int .u64 x.n, .int .i64 x.frm, .int .i64 x.to], .int .i64 x.f]) ∧ Kept [] w w' := by
  obtain ⟨y, hy⟩ : ∃ y, y = varL ys most := ⟨_, rfl⟩
  have hg := varL_good ys most ho
  have hb := h.kept ((Kept.refl [] w).alloc (.cells #[.int .u64 0, .int .i64 0, .int .i64 0] 125)) (fun _ _ => by simp)
  have hcall := lookVar_any v ys most _ hb hm ho y hy
  have hxy : x = if y.f ≠ 0 then ⟨0, 0, 0, y.f⟩ else if (ys.length : Int) - y.to < y.n then ⟨0, 0, 0, 1⟩ else ⟨y.n, y.frm, y.to + y.n.toNat, 0⟩ := by rw [hx.out, hy]; rfl
  rw [← hy] at hg
  obtain ⟨g1, g2, g3, g4, g5, g6, g7⟩ := hg
  obtain ⟨yn, yfrm, yto, yf⟩ := y
  dsimp only at g1 g2 g3 g4 g5 g6 g7 hcall hxy
  obtain ⟨ao, cap, rfl, _⟩ := h
  clear hx hy hb
  have KF : ∀ w1 o a b c, Kept [] (w.alloc (.cells #[.int .u64 0, .int .i64 0, .int .i64 0] 125)) w1 →
      Kept [] w ((((w1.setCell ⟨w.heap.size, 0, none⟩ a).setCell ⟨w.heap.size, 1, none⟩ b).setCell ⟨w.heap.size, 2, none⟩ c).alloc o) := fun w1 o a b c hk =>
    ((((((Kept.refl [] w).alloc (.cells #[.int .u64 0, .int .i64 0, .int .i64 0] 125)).then hk).setCell (Or.inr (Nat.le_refl _)) _).setCell (Or.inr (Nat.le_refl _)) _).setCell (Or.inr (Nat.le_refl _)) _).alloc _
  by_cases hf : yf = 0
  · subst hf
    by_cases hn : (ys.length : Int) - yto < yn
    · rw [if_neg (by decide), if_pos hn] at hxy
      have EX : Hid (x = ⟨0, 0, 0, 1⟩) := hxy
      clear hxy g2 g6 g7
      go_enter Tryd.func75, Tryd.ntmps75
      go_wp2_with (go_at_call 74; refine hcall.mono ?_; rintro e w1 ⟨rfl, hk⟩; obtain ⟨z1, z2, z3⟩ := hk.last)
      exact bodyPost_ret (v := .tuple #[.agg #[.int .u64 0, .int .i64 0, .int .i64 0], .int .i64 1]) (by simp [results, Tryd.results75, go_sem, z1, z2]) rfl ⟨by rw [EX.out]; rfl, KF _ _ _ _ _ hk⟩
    · rw [if_neg (by decide), if_neg hn] at hxy
      have EX : Hid (x = ⟨yn, yfrm, yto + yn.toNat, 0⟩) := hxy
      have ES : Hid (((yto + yn.toNat : Nat) : Int) = yto + yn) := by show _ = _; omega
      clear hxy g2 g6 g7
      go_enter Tryd.func75, Tryd.ntmps75
      go_wp2_with (go_at_call 74; refine hcall.mono ?_; rintro e w1 ⟨rfl, hk⟩; obtain ⟨z1, z2, z3⟩ := hk.last)
      exact bodyPost_ret (v := .tuple #[.agg #[.int .u64 yn, .int .i64 yfrm, .int .i64 (yto + yn)], .int .i64 0]) (by simp [results, Tryd.results75, go_sem, z1, z2]) rfl ⟨by rw [EX.out]; simp only [ES.out]; rfl, KF _ _ _ _ _ hk⟩
  · rw [if_pos hf] at hxy
    have EX : Hid (x = ⟨0, 0, 0, yf⟩) := hxy
    have hf1 : 1 ≤ yf := by omega
    clear hxy g2 g6 g7 hf
    go_enter Tryd.func75, Tryd.ntmps75
    go_wp2_with (go_at_call 74; refine hcall.mono ?_; rintro e w1 ⟨rfl, hk⟩; obtain ⟨z1, z2, z3⟩ := hk.last)
    exact bodyPost_ret (v := .tuple #[.agg #[.int .u64 0, .int .i64 0, .int .i64 0], .int .i64 yf]) (by simp [results, Tryd.results75, go_sem, z1, z2]) rfl ⟨by rw [EX.out]; rfl, KF _ _ _ _ _ hk⟩

end Go.Proofs.YtnfbiemmdaenpaaDoor

namespace Go.Proofs.YtnfbiemmdaenpaaDoor
open Go.RowKit

structure Fnd.Fits (x : Fnd) (len : Nat) : Prop where
  n0 : 0 ≤ x.n
  n1 : x.n ≤ 18446744073709551615
  frm : x.frm ≤ x.to
  to : x.to ≤ len
  f : x.f ≤ 4
  bad : x.f ≠ 0 → x = ⟨0, 0, 0, x.f⟩

theorem fits_bad (f len : Nat) (h : f ≤ 4) : Fnd.Fits ⟨0, 0, 0, f⟩ len := ⟨Int.le_refl _, (by dsimp only; decide), Nat.le_refl _, Nat.zero_le _, h, fun _ => rfl⟩
theorem varL_fits (ys : List Int) (most : Int) (ho : Octs ys) (hm : most ≤ 18446744073709551615) : Fnd.Fits (varL ys most) ys.length := by
  obtain ⟨g1, g2, g3, g4, g5, g6, g7⟩ := varL_good ys most ho
  refine ⟨g1, ?_, g3, g4, by omega, g6⟩
  by_cases h : (varL ys most).f = 0
  · have := g2 h; omega
  · rw [g6 h]; dsimp only; decide
theorem fixedL_fits (ys : List Int) (size : Nat) (ho : Octs ys) (hs : size ≤ 8) : Fnd.Fits (fixedL ys size) ys.length := by
  unfold fixedL
  split
  · exact fits_bad 1 _ (by decide)
  · rename_i hl
    have h1 := be_from (ys.take size) (octs_take ho size) 0 (by omega)
    have h2 : (ys.take size).length = size := by simp; omega
    have h3 : ∀ k : Nat, k ≤ 8 → (256 : Int) ^ k ≤ 18446744073709551616 := by decide +kernel
    have h4 := h3 size hs
    rw [h2] at h1
    have h5 : be (ys.take size) < (0 + 1) * 256 ^ size := h1.2
    have h6 : 0 ≤ be (ys.take size) := h1.1
    exact ⟨h6, by dsimp only; omega, Nat.le_refl _, by dsimp only; omega, Nat.zero_le _, fun h => absurd rfl h⟩
theorem rawL_fits (ys : List Int) (size : Int) : Fnd.Fits (rawL ys size) ys.length := by
  unfold rawL
  split
  · exact fits_bad 4 _ (by decide)
  · split
    · exact fits_bad 1 _ (by decide)
    · exact ⟨Int.le_refl _, (by dsimp only; decide), Nat.zero_le _, by dsimp only; omega, Nat.zero_le _, fun h => absurd rfl h⟩
theorem bytesL_fits (ys : List Int) (most : Int) (ho : Octs ys) (hm : most ≤ 18446744073709551615) : Fnd.Fits (bytesL ys most) ys.length := by
  obtain ⟨g1, g2, g3, g4, g5, g6⟩ := varL_fits ys most ho hm
  unfold bytesL
  split
  · exact fits_bad _ _ g5
  · split
    · exact fits_bad 1 _ (by decide)
    · exact ⟨g1, g2, by dsimp only; omega, by dsimp only; omega, Nat.zero_le _, fun h => absurd rfl h⟩
theorem lookL_fits (ys : List Int) (kind size most : Int) (ho : Octs ys) (hs : kind = 0 → size ≤ 8) (hm : most ≤ 18446744073709551615) : Fnd.Fits (lookL ys kind size most) ys.length := by
  unfold lookL
  split
  · rename_i h; exact fixedL_fits ys _ ho (by have := hs h; omega)
  · split
    · exact varL_fits ys most ho hm
    · split
      · exact bytesL_fits ys most ho hm
      · exact rawL_fits ys size

/-- A piece of a row of bytes. -/
theorem BytesAt.seg {w : World} {g : Nat} {t : TypeId} {xs : List Int} (h : w.heap[g]? = some (.cells (xs.map (Value.int .u8)).toArray t (0, 0))) (lo n cap : Nat) (hn : lo + n ≤ xs.length) (hc : n ≤ cap) :
    BytesAt w (.slice (some ⟨g, lo, none⟩) n cap) ((xs.drop lo).take n) := by
  have hl : ((xs.drop lo).take n).length = n := by simp; omega
  refine ⟨some ⟨g, lo, none⟩, cap, by rw [hl], by rw [hl]; exact hc, fun e => (by simp at e), fun _ => ⟨g, lo, rfl, fun i u hu => ?_⟩⟩
  rw [cell_of_row w g (lo + i) _ t _ h]
  have hi : i < n := by have := (List.getElem?_eq_some_iff.1 hu).1; omega
  rw [List.getElem?_take_of_lt hi, List.getElem?_drop] at hu
  simp only [List.getElem?_toArray, List.getElem?_map, hu, Option.map_some]
theorem BytesAt.none' {w : World} (ao : Option Addr) (cap : Nat) (hc : ao = none → cap = 0) : BytesAt w (.slice ao 0 cap) [] := ⟨ao, cap, rfl, Nat.zero_le _, hc, fun h => absurd rfl h⟩
theorem BytesAt.drewN {w : World} {v : Value} {ys : List Int} (h : BytesAt w v ys) (n : Nat) : BytesAt (w.drewN n) v ys := h.kept (S := []) ((Kept.refl _ _).drewN n) (fun _ _ => by simp)

end Go.Proofs.YtnfbiemmdaenpaaDoor
