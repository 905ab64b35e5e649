/-
  WALK: code.lookFixed, for every slice of bytes and size 1 to 8.
  WALK: code.lookVar, for every slice of bytes and bound.
  WALKS: code.lookFixed, lookVar, lookRaw, lookBytes and look, for every slice of bytes.
-/
import Derived.Test.YtddhhjgegkkjbaaGreatDoorCopied
import Derived.Test.YtddhhjgegkkjbaaGreatDoorPlain
import Derived.Outline
namespace Go.Proofs.YtddhhjgegkkjbaaGreatDoor
open Go.RowKit

set_option maxHeartbeats 400000 in
theorem lookFixed_yes (b off cap : Nat) (ys : List Int) (size : Nat) (w : World) (hs0 : 1 ≤ size) (hs : size ≤ 8) (hlen : size ≤ ys.length) (hm : ys.length ≤ 140737488355328) (ho : Octs ys)
    (hcell : ∀ i, i < ys.length → w.cell? ⟨b, off + i, none⟩ = some (.int .u8 (ys[i]?.getD 0))) :
    Calls Tryz.prog 100 #[.slice (some ⟨b, off, none⟩) ys.length cap, .int .i64 size] w fun e w' =>
      e = .returned (.tuple #[.agg #[.int .u64 (be (ys.take size)), .int .i64 size, .int .i64 size], .int .i64 0]) ∧ Kept [] w w' := by
  go_enter Tryz.func100, Tryz.ntmps100
  go_wp2
  go_loop [6, 14] (fun n i => ∃ k : Nat, k ≤ size ∧ i = .int .i64 k ∧ n = .int .u64 (be (ys.take k))) (fun _ i => size - (intOf i).toNat)
  case atStart => exact ⟨0, Nat.zero_le _, rfl, rfl⟩
  case round =>
    obtain ⟨k, hk, rfl, rfl⟩ := hrel
    by_cases hlt : k < size
    · have hb := be_le8 (ys.take k) (octs_take ho k) (by simp; omega)
      have hx := octs_getD ho k
      have hc : (w.alloc (.cells #[.int .u64 0, .int .i64 0, .int .i64 0] 151)).cell? ⟨b, off + k, none⟩ = some (.int .u8 (ys[k]?.getD 0)) := by
        rw [World.cell?_alloc_lt]
        · exact hcell k (by omega)
        · exact World.block_lt_of_cell? w _ (hcell k (by omega))
      have hst := be_step (be (ys.take k)) (ys[k]?.getD 0) hb.1 hb.2 hx.1 hx.2
      have hsn := be_snoc (ys.take k) (ys[k]?.getD 0)
      have hts := take_snoc ys k (by omega)
      have HF : Hid (bits .or .u64 (be (ys.take k) * 256) (ys[k]?.getD 0) = be (ys.take (k + 1))) := by rw [hst, hts, ← hsn]; rfl
      clear hst hsn hts
      go_wp2
      go_round
      case rel => exact ⟨k + 1, by omega, by go_num, by rw [HF.out]⟩
      case measure => simp [intOf]; omega
    · obtain rfl : k = size := by omega
      go_wp2
      exact bodyPost_ret (v := .tuple #[.agg #[.int .u64 (be (ys.take k)), .int .i64 k, .int .i64 k], .int .i64 0]) (by simp [results, Tryz.results100, go_sem]) rfl ⟨rfl, (Kept.refl _ _).alloc _⟩

/-- The same where the bytes are too few. -/
theorem lookFixed_no (ao : Option Addr) (n cap : Nat) (size : Nat) (w : World) (hlen : n < size) :
    Calls Tryz.prog 100 #[.slice ao n cap, .int .i64 size] w fun e w' =>
      e = .returned (.tuple #[.agg #[.int .u64 0, .int .i64 0, .int .i64 0], .int .i64 1]) ∧ Kept [] w w' := by
  go_enter Tryz.func100, Tryz.ntmps100
  go_wp2
  exact bodyPost_ret (v := .tuple #[.agg #[.int .u64 0, .int .i64 0, .int .i64 0], .int .i64 1]) (by simp [results, Tryz.results100, go_sem]) rfl ⟨rfl, (Kept.refl _ _).alloc _⟩

end Go.Proofs.YtddhhjgegkkjbaaGreatDoor

namespace Go.Proofs.YtddhhjgegkkjbaaGreatDoor
open Go.RowKit

theorem lookVar_empty (ao : Option Addr) (cap : Nat) (most : Int) (w : World) :
    Calls Tryz.prog 101 #[.slice ao 0 cap, .int .u64 most] w fun e w' =>
      e = .returned (.tuple #[.agg #[.int .u64 0, .int .i64 0, .int .i64 0], .int .i64 1]) ∧ Kept [] w w' := by
  go_enter Tryz.func101, Tryz.ntmps101
  go_wp2
  refine wp_loop_rounds 1 ?_
  rw [rounds_succ]
  go_wp2
  exact bodyPost_ret (v := .tuple #[.agg #[.int .u64 0, .int .i64 0, .int .i64 0], .int .i64 1]) (by simp [results, Tryz.results101, go_sem]) rfl ⟨rfl, (Kept.refl _ _).alloc _⟩

set_option maxHeartbeats 1000000 in
theorem lookVar_some (b off cap : Nat) (ys : List Int) (most : Int) (w : World) (hm : ys.length ≤ 140737488355328) (ho : Octs ys)
    (hcell : ∀ i, i < ys.length → w.cell? ⟨b, off + i, none⟩ = some (.int .u8 (ys[i]?.getD 0))) (x : Fnd) (hx : Hid (x = varL ys most)) :
    Calls Tryz.prog 101 #[.slice (some ⟨b, off, none⟩) ys.length cap, .int .u64 most] w fun e w' =>
      e = .returned (.tuple #[.agg #[.int .u64 x.n, .int .i64 x.frm, .int .i64 x.to], .int .i64 x.f]) ∧ Kept [] w w' := by
  go_enter Tryz.func101, Tryz.ntmps101
  go_wp2
  go_loop [6, 8] (fun t i => ∃ k : Nat, ∃ n : Int, k ≤ 10 ∧ i = .int .i64 k ∧ t = .int .u64 n ∧ 0 ≤ n ∧ n < 128 ^ k ∧ Hid (x = varFrom most (10 - k) k n (ys.drop k))) (fun _ i => 10 - (intOf i).toNat)
  case atStart => exact ⟨0, 0, by omega, rfl, rfl, by omega, by decide, hx⟩
  case round =>
    obtain ⟨k, n, hk, rfl, rfl, hn0, hn1, HX⟩ := hrel
    by_cases hlt : k < 10
    · by_cases hkl : k < ys.length
      · have hxb := octs_getD ho k
        have hc : (w.alloc (.cells #[.int .u64 0, .int .i64 0, .int .i64 0] 151)).cell? ⟨b, off + k, none⟩ = some (.int .u8 (ys[k]?.getD 0)) := by
          rw [World.cell?_alloc_lt]
          · exact hcell k (by omega)
          · exact World.block_lt_of_cell? w _ (hcell k (by omega))
        obtain ⟨z, hz⟩ : ∃ z, z = ys[k]?.getD 0 := ⟨_, rfl⟩
        rw [← hz] at hc hxb
        have HZ : Hid (z = ys[k]?.getD 0) := hz
        clear hz
        have HO := vf_open (most := most) (n := n) hlt hkl HZ.out
        rw [← HX.out] at HO
        have HO' : Hid _ := HO
        clear HO HX HZ
        by_cases h128 : 128 ≤ z
        · have e1 := and128_hi z h128 (by omega)
          have e2 := andNot128_hi z h128 (by omega)
          by_cases hk9 : k = 9
          · subst hk9
            have ex : x = ⟨0, 0, 0, 2⟩ := by have := HO'.out; rwa [if_pos ⟨rfl, by omega⟩] at this
            have EX : Hid (x = ⟨0, 0, 0, 2⟩) := ex
            clear ex HO'
            go_wp2
            exact bodyPost_ret (v := .tuple #[.agg #[.int .u64 0, .int .i64 0, .int .i64 0], .int .i64 2]) (by simp [results, Tryz.results101, go_sem]) rfl ⟨by rw [EX.out]; rfl, (Kept.refl _ _).alloc _⟩
          · have ex : x = varFrom most (10 - (k + 1)) (k + 1) (n + (z - 128) * 128 ^ k) (ys.drop (k + 1)) := by have := HO'.out; rwa [if_neg (by omega), if_pos h128] at this
            have EX : Hid _ := ex
            have EO : Hid _ := var_or k n (z - 128) hn0 hn1 (by omega) (by omega) (by omega)
            clear ex HO'
            go_wp2
            go_round
            case rel => exact ⟨k + 1, _, by omega, by go_num, by rw [EO.out], var_ge k n _ hn0 (by omega), var_lt k n _ hn1 (by omega), EX⟩
            case measure => simp [intOf]; omega
        · have e1 := and128_lo z hxb.1 (by omega)
          have e2 := andNot128_lo z hxb.1 (by omega)
          by_cases hk9 : 9 ≤ k
          · have hb9 : ((k : Int) == 9) = true := beq_iff_eq.2 (by omega)
            by_cases hz1 : 1 < z
            · have ex : x = ⟨0, 0, 0, 2⟩ := by have := HO'.out; rwa [if_pos ⟨by omega, hz1⟩] at this
              have EX : Hid (x = ⟨0, 0, 0, 2⟩) := ex
              clear ex HO'
              go_wp2
              exact bodyPost_ret (v := .tuple #[.agg #[.int .u64 0, .int .i64 0, .int .i64 0], .int .i64 2]) (by simp [results, Tryz.results101, go_sem]) rfl ⟨by rw [EX.out]; rfl, (Kept.refl _ _).alloc _⟩
            · by_cases hz0 : z = 0
              · subst hz0
                have ex : x = ⟨0, 0, 0, 2⟩ := by have := HO'.out; rwa [if_neg (by omega), if_neg h128, if_pos ⟨rfl, by omega⟩] at this
                have EX : Hid (x = ⟨0, 0, 0, 2⟩) := ex
                clear ex HO'
                go_wp2
                exact bodyPost_ret (v := .tuple #[.agg #[.int .u64 0, .int .i64 0, .int .i64 0], .int .i64 2]) (by simp [results, Tryz.results101, go_sem]) rfl ⟨by rw [EX.out]; rfl, (Kept.refl _ _).alloc _⟩
              · have hz2 : 1 ≤ z := by omega
                have hxk : x = if most < n + z * 128 ^ k then ⟨0, 0, 0, 3⟩ else ⟨n + z * 128 ^ k, k + 1, k + 1, 0⟩ := by have := HO'.out; rwa [if_neg (by omega), if_neg h128, if_neg (by omega)] at this
                have e3 := var_or k n z hn0 hn1 hxb.1 (by omega) (by omega)
                obtain ⟨m, hm'⟩ : ∃ m, m = n + z * 128 ^ k := ⟨_, rfl⟩
                rw [← hm'] at e3 hxk
                clear HO' hm' hn1
                by_cases hmost : most < m
                · rw [if_pos hmost] at hxk
                  have EX : Hid (x = ⟨0, 0, 0, 3⟩) := hxk
                  clear hxk
                  go_wp2
                  exact bodyPost_ret (v := .tuple #[.agg #[.int .u64 0, .int .i64 0, .int .i64 0], .int .i64 3]) (by simp [results, Tryz.results101, go_sem]) rfl ⟨by rw [EX.out]; rfl, (Kept.refl _ _).alloc _⟩
                · rw [if_neg hmost] at hxk
                  have EX : Hid (x = ⟨m, k + 1, k + 1, 0⟩) := hxk
                  clear hxk
                  go_wp2
                  exact bodyPost_ret (v := .tuple #[.agg #[.int .u64 m, .int .i64 (k + 1), .int .i64 (k + 1)], .int .i64 0]) (by simp [results, Tryz.results101, go_sem]) rfl ⟨by rw [EX.out]; rfl, (Kept.refl _ _).alloc _⟩
          · by_cases hz0 : z = 0
            · by_cases hk1 : 1 ≤ k
              · subst hz0
                have ex : x = ⟨0, 0, 0, 2⟩ := by have := HO'.out; rwa [if_neg (by omega), if_neg h128, if_pos ⟨rfl, by omega⟩] at this
                have EX : Hid (x = ⟨0, 0, 0, 2⟩) := ex
                clear ex HO'
                go_wp2
                exact bodyPost_ret (v := .tuple #[.agg #[.int .u64 0, .int .i64 0, .int .i64 0], .int .i64 2]) (by simp [results, Tryz.results101, go_sem]) rfl ⟨by rw [EX.out]; rfl, (Kept.refl _ _).alloc _⟩
              · have hbz : (z == 0) = true := beq_iff_eq.2 hz0
                have hz2 : z ≤ 0 := by omega
                have hk2 : k ≤ 0 := by omega
                clear hz0 hk1
                have hxk : x = if most < n + z * 128 ^ k then ⟨0, 0, 0, 3⟩ else ⟨n + z * 128 ^ k, k + 1, k + 1, 0⟩ := by have := HO'.out; rwa [if_neg (by omega), if_neg h128, if_neg (by omega)] at this
                have e3 := var_or k n z hn0 hn1 hxb.1 (by omega) (by omega)
                obtain ⟨m, hm'⟩ : ∃ m, m = n + z * 128 ^ k := ⟨_, rfl⟩
                rw [← hm'] at e3 hxk
                clear HO' hm' hn1
                by_cases hmost : most < m
                · rw [if_pos hmost] at hxk
                  have EX : Hid (x = ⟨0, 0, 0, 3⟩) := hxk
                  clear hxk
                  go_wp2
                  exact bodyPost_ret (v := .tuple #[.agg #[.int .u64 0, .int .i64 0, .int .i64 0], .int .i64 3]) (by simp [results, Tryz.results101, go_sem]) rfl ⟨by rw [EX.out]; rfl, (Kept.refl _ _).alloc _⟩
                · rw [if_neg hmost] at hxk
                  have EX : Hid (x = ⟨m, k + 1, k + 1, 0⟩) := hxk
                  clear hxk
                  go_wp2
                  exact bodyPost_ret (v := .tuple #[.agg #[.int .u64 m, .int .i64 (k + 1), .int .i64 (k + 1)], .int .i64 0]) (by simp [results, Tryz.results101, go_sem]) rfl ⟨by rw [EX.out]; rfl, (Kept.refl _ _).alloc _⟩
            · have hz1 : 1 ≤ z := by omega
              have hxk : x = if most < n + z * 128 ^ k then ⟨0, 0, 0, 3⟩ else ⟨n + z * 128 ^ k, k + 1, k + 1, 0⟩ := by have := HO'.out; rwa [if_neg (by omega), if_neg h128, if_neg (by omega)] at this
              have e3 := var_or k n z hn0 hn1 hxb.1 (by omega) (by omega)
              obtain ⟨m, hm'⟩ : ∃ m, m = n + z * 128 ^ k := ⟨_, rfl⟩
              rw [← hm'] at e3 hxk
              clear HO' hm' hn1
              by_cases hmost : most < m
              · rw [if_pos hmost] at hxk
                have EX : Hid (x = ⟨0, 0, 0, 3⟩) := hxk
                clear hxk
                go_wp2
                exact bodyPost_ret (v := .tuple #[.agg #[.int .u64 0, .int .i64 0, .int .i64 0], .int .i64 3]) (by simp [results, Tryz.results101, go_sem]) rfl ⟨by rw [EX.out]; rfl, (Kept.refl _ _).alloc _⟩
              · rw [if_neg hmost] at hxk
                have EX : Hid (x = ⟨m, k + 1, k + 1, 0⟩) := hxk
                clear hxk
                go_wp2
                exact bodyPost_ret (v := .tuple #[.agg #[.int .u64 m, .int .i64 (k + 1), .int .i64 (k + 1)], .int .i64 0]) (by simp [results, Tryz.results101, go_sem]) rfl ⟨by rw [EX.out]; rfl, (Kept.refl _ _).alloc _⟩
      · have ex := HX.out.trans (vf_short (most := most) (n := n) hlt (by omega))
        have EX : Hid (x = ⟨0, 0, 0, 1⟩) := ex
        clear ex HX
        go_wp2
        exact bodyPost_ret (v := .tuple #[.agg #[.int .u64 0, .int .i64 0, .int .i64 0], .int .i64 1]) (by simp [results, Tryz.results101, go_sem]) rfl ⟨by rw [EX.out]; rfl, (Kept.refl _ _).alloc _⟩
    · have ex := HX.out.trans (vf_end (most := most) (n := n) (by omega))
      have EX : Hid (x = ⟨0, 0, 0, 2⟩) := ex
      clear ex HX
      go_wp2
      exact bodyPost_ret (v := .tuple #[.agg #[.int .u64 0, .int .i64 0, .int .i64 0], .int .i64 2]) (by simp [results, Tryz.results101, go_sem]) rfl ⟨by rw [EX.out]; rfl, (Kept.refl _ _).alloc _⟩

end Go.Proofs.YtddhhjgegkkjbaaGreatDoor

namespace Go.Proofs.YtddhhjgegkkjbaaGreatDoor
open Go.RowKit

theorem lookVar_any (v : Value) (ys : List Int) (most : Int) (w : World) (h : BytesAt w v ys) (hm : ys.length ≤ 140737488355328) (ho : Octs ys) (x : Fnd) (hx : Hid (x = varL ys most)) :
    Calls Tryz.prog 101 #[v, .int .u64 most] w fun e w' =>
      e = .returned (.tuple #[.agg #[.int .u64 x.n, .int .i64 x.frm, .int .i64 x.to], .int .i64 x.f]) ∧ Kept [] w w' := by
  rcases h.parts with ⟨rfl, ao, cap, rfl⟩ | ⟨b, off, cap, rfl, hc, h0, hcell⟩
  · rw [hx.out]; exact lookVar_empty ao cap most w
  · exact lookVar_some b off cap ys most w hm ho hcell x hx

theorem lookFixed_any (v : Value) (ys : List Int) (size : Nat) (w : World) (h : BytesAt w v ys) (hm : ys.length ≤ 140737488355328) (ho : Octs ys) (hs0 : 1 ≤ size) (hs : size ≤ 8) (x : Fnd) (hx : Hid (x = fixedL ys size)) :
    Calls Tryz.prog 100 #[v, .int .i64 size] w fun e w' =>
      e = .returned (.tuple #[.agg #[.int .u64 x.n, .int .i64 x.frm, .int .i64 x.to], .int .i64 x.f]) ∧ Kept [] w w' := by
  by_cases hl : ys.length < size
  · obtain ⟨ao, cap, rfl, _⟩ := h
    have e : x = ⟨0, 0, 0, 1⟩ := by rw [hx.out]; simp [fixedL, hl]
    rw [e]; exact lookFixed_no ao ys.length cap size w hl
  · have e : x = ⟨be (ys.take size), size, size, 0⟩ := by rw [hx.out]; simp [fixedL, hl]
    rw [e]
    rcases h.parts with ⟨rfl, ao, cap, rfl⟩ | ⟨b, off, cap, rfl, hc, h0, hcell⟩
    · simp at hl; omega
    · exact lookFixed_yes b off cap ys size w hs0 hs (by omega) hm ho hcell

set_option maxHeartbeats 400000 in
theorem lookRaw_any (v : Value) (ys : List Int) (size : Int) (w : World) (h : BytesAt w v ys) (hs : size ≤ 9223372036854775807) (x : Fnd) (hx : Hid (x = rawL ys size)) :
    Calls Tryz.prog 103 #[v, .int .i64 size] w fun e w' =>
      e = .returned (.tuple #[.agg #[.int .u64 x.n, .int .i64 x.frm, .int .i64 x.to], .int .i64 x.f]) ∧ Kept [] w w' := by
  obtain ⟨ao, cap, rfl, _⟩ := h
  by_cases h0 : size < 0
  · have EX : Hid (x = ⟨0, 0, 0, 4⟩) := by rw [hx.out]; exact if_pos h0
    go_enter Tryz.func103, Tryz.ntmps103
    go_wp2
    exact bodyPost_ret (v := .tuple #[.agg #[.int .u64 0, .int .i64 0, .int .i64 0], .int .i64 4]) (by simp [results, Tryz.results103, go_sem]) rfl ⟨by rw [EX.out]; rfl, (Kept.refl _ _).alloc _⟩
  · by_cases h1 : (ys.length : Int) < size
    · have EX : Hid (x = ⟨0, 0, 0, 1⟩) := by rw [hx.out]; exact (if_neg h0).trans (if_pos h1)
      go_enter Tryz.func103, Tryz.ntmps103
      go_wp2
      exact bodyPost_ret (v := .tuple #[.agg #[.int .u64 0, .int .i64 0, .int .i64 0], .int .i64 1]) (by simp [results, Tryz.results103, go_sem]) rfl ⟨by rw [EX.out]; rfl, (Kept.refl _ _).alloc _⟩
    · have EX : Hid (x = ⟨0, 0, size.toNat, 0⟩) := by rw [hx.out]; exact (if_neg h0).trans (if_neg h1)
      have ES : Hid ((size.toNat : Int) = size) := by show _ = _; omega
      go_enter Tryz.func103, Tryz.ntmps103
      go_wp2
      exact bodyPost_ret (v := .tuple #[.agg #[.int .u64 0, .int .i64 0, .int .i64 size], .int .i64 0]) (by simp [results, Tryz.results103, go_sem]) rfl ⟨by rw [EX.out]; simp only [ES.out]; rfl, (Kept.refl _ _).alloc _⟩

set_option maxHeartbeats 1000000 in
theorem lookBytes_any (v : Value) (ys : List Int) (most : Int) (w : World) (h : BytesAt w v ys) (hm : ys.length ≤ 140737488355328) (ho : Octs ys) (x : Fnd) (hx : Hid (x = bytesL ys most)) :
    Calls Tryz.prog 102 #[v, .int .u64 most] w fun e w' =>
      e = .returned (.tuple #[.agg #[.int .u64 x.n, .int .i64 x.frm, .int .i64 x.to], .int .i64 x.f]) ∧ Kept [] w w' := by
  obtain ⟨y, hy⟩ : ∃ y, y = varL ys most := ⟨_, rfl⟩
  have hg := varL_good ys most ho
  have hb := h.kept ((Kept.refl [] w).alloc (.cells #[.int .u64 0, .int .i64 0, .int .i64 0] 151)) (fun _ _ => by simp)
  have hcall := lookVar_any v ys most _ hb hm ho y hy
  have hxy : x = if y.f ≠ 0 then ⟨0, 0, 0, y.f⟩ else if (ys.length : Int) - y.to < y.n then ⟨0, 0, 0, 1⟩ else ⟨y.n, y.frm, y.to + y.n.toNat, 0⟩ := by rw [hx.out, hy]; rfl
  rw [← hy] at hg
  obtain ⟨g1, g2, g3, g4, g5, g6, g7⟩ := hg
  obtain ⟨yn, yfrm, yto, yf⟩ := y
  dsimp only at g1 g2 g3 g4 g5 g6 g7 hcall hxy
  obtain ⟨ao, cap, rfl, _⟩ := h
  clear hx hy hb
  have KF : ∀ w1 o a b c, Kept [] (w.alloc (.cells #[.int .u64 0, .int .i64 0, .int .i64 0] 151)) w1 →
      Kept [] w ((((w1.setCell ⟨w.heap.size, 0, none⟩ a).setCell ⟨w.heap.size, 1, none⟩ b).setCell ⟨w.heap.size, 2, none⟩ c).alloc o) := fun w1 o a b c hk =>
    ((((((Kept.refl [] w).alloc (.cells #[.int .u64 0, .int .i64 0, .int .i64 0] 151)).then hk).setCell (Or.inr (Nat.le_refl _)) _).setCell (Or.inr (Nat.le_refl _)) _).setCell (Or.inr (Nat.le_refl _)) _).alloc _
  by_cases hf : yf = 0
  · subst hf
    by_cases hn : (ys.length : Int) - yto < yn
    · rw [if_neg (by decide), if_pos hn] at hxy
      have EX : Hid (x = ⟨0, 0, 0, 1⟩) := hxy
      clear hxy g2 g6 g7
      go_enter Tryz.func102, Tryz.ntmps102
      go_wp2_with (go_at_call 101; refine hcall.mono ?_; rintro e w1 ⟨rfl, hk⟩; obtain ⟨z1, z2, z3⟩ := hk.last)
      exact bodyPost_ret (v := .tuple #[.agg #[.int .u64 0, .int .i64 0, .int .i64 0], .int .i64 1]) (by simp [results, Tryz.results102, go_sem, z1, z2]) rfl ⟨by rw [EX.out]; rfl, KF _ _ _ _ _ hk⟩
    · rw [if_neg (by decide), if_neg hn] at hxy
      have EX : Hid (x = ⟨yn, yfrm, yto + yn.toNat, 0⟩) := hxy
      have ES : Hid (((yto + yn.toNat : Nat) : Int) = yto + yn) := by show _ = _; omega
      clear hxy g2 g6 g7
      go_enter Tryz.func102, Tryz.ntmps102
      go_wp2_with (go_at_call 101; refine hcall.mono ?_; rintro e w1 ⟨rfl, hk⟩; obtain ⟨z1, z2, z3⟩ := hk.last)
      exact bodyPost_ret (v := .tuple #[.agg #[.int .u64 yn, .int .i64 yfrm, .int .i64 (yto + yn)], .int .i64 0]) (by simp [results, Tryz.results102, go_sem, z1, z2]) rfl ⟨by rw [EX.out]; simp only [ES.out]; rfl, KF _ _ _ _ _ hk⟩
  · rw [if_pos hf] at hxy
    have EX : Hid (x = ⟨0, 0, 0, yf⟩) := hxy
    have hf1 : 1 ≤ yf := by omega
    clear hxy g2 g6 g7 hf
    go_enter Tryz.func102, Tryz.ntmps102
    go_wp2_with (go_at_call 101; refine hcall.mono ?_; rintro e w1 ⟨rfl, hk⟩; obtain ⟨z1, z2, z3⟩ := hk.last)
    exact bodyPost_ret (v := .tuple #[.agg #[.int .u64 0, .int .i64 0, .int .i64 0], .int .i64 yf]) (by simp [results, Tryz.results102, go_sem, z1, z2]) rfl ⟨by rw [EX.out]; rfl, KF _ _ _ _ _ hk⟩

end Go.Proofs.YtddhhjgegkkjbaaGreatDoor
