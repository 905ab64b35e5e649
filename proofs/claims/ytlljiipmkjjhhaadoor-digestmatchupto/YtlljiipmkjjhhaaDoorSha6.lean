/-
  WALKS: digest.New, (*digest.Hash).pad, for every Hash.
-/
import Derived.Test.YtlljiipmkjjhhaaDoorSha5
import Derived.Test.YtlljiipmkjjhhaaDoorRowP
namespace Go.Proofs.YtlljiipmkjjhhaaDoor
open Go.RowKit

/-- The end of the padded text, behind so many bytes in the last block and so many in all. -/
def padStep (told : Int) (l : List Int) (i : Nat) : List Int := l.set (l.length - 1 - i) (IntKind.u8.wrap (told / 2 ^ (8 * i)))
def padFrom (n : Nat) (told : Int) (k : Nat) : List Int := (List.range k).foldl (padStep told) ((List.replicate n 0).set 0 128)
theorem padFrom_zero (n : Nat) (told : Int) : padFrom n told 0 = (List.replicate n 0).set 0 128 := rfl
theorem padFrom_succ (n : Nat) (told : Int) (k : Nat) : padFrom n told (k + 1) = padStep told (padFrom n told k) k := by
  unfold padFrom; rw [List.range_succ, List.foldl_append]; rfl
theorem padFrom_len (n : Nat) (told : Int) (k : Nat) : (padFrom n told k).length = n := by
  induction k with
  | zero => rw [padFrom_zero]; simp
  | succ k ih => rw [padFrom_succ, padStep, List.length_set, ih]
theorem u8_octs (x : Int) : 0 ≤ IntKind.u8.wrap x ∧ IntKind.u8.wrap x ≤ 255 := by rw [IntKind.wrap_u8']; omega
theorem octs_set {l : List Int} (h : Octs l) (i : Nat) (x : Int) (hx : 0 ≤ x ∧ x ≤ 255) : Octs (l.set i x) := by
  intro u hu
  rcases List.mem_or_eq_of_mem_set hu with h1 | h1
  · exact h u h1
  · rw [h1]; exact hx
theorem padFrom_octs (n : Nat) (told : Int) (k : Nat) : Octs (padFrom n told k) := by
  induction k with
  | zero =>
    rw [padFrom_zero]
    exact octs_set (fun u hu => by rw [(List.mem_replicate.1 hu).2]; decide) _ _ (by decide)
  | succ k ih => rw [padFrom_succ]; exact octs_set ih _ _ (u8_octs _)
theorem apart_new {b g n c : Nat} (h : b < g) : ∀ q, blkOf (.slice (some ⟨g, 0, none⟩) n c) = some q → q ≠ b := by
  intro q hq
  cases hq
  exact Nat.ne_of_gt h
/-- How many bytes the padding has. -/
def padN (p : Nat) : Nat := if 63 - p < 8 then 128 - p else 64 - p
def padL (p : Nat) (len : Int) : List Int := padFrom (padN p) (IntKind.u64.wrap (len * 8)) 8

set_option maxRecDepth 100000 in
set_option maxHeartbeats 4000000 in
theorem pad_any (w : World) (b : Nat) (s : List Int × List Int) (len : Int) (hV : Vars w) (hb0 : b ≠ 1) (hb1 : b ≠ 2) (hH : HashOf w b s len) :
    Calls Tryd.prog 69 #[.pointer (some ⟨b, 0, none⟩)] w fun e w' => e = .returned (.tuple #[]) ∧ HashOf w' b (feedL s (padL s.2.length len)) (IntKind.u64.wrap (len + padN s.2.length)) ∧ Kept [b] w w' := by
  obtain ⟨rest, hA, hp⟩ := id hH
  have c72 := hA.filled
  have c73 := hA.length
  have HH : Hid (HashOf w b s len) := hH
  have hbl : b < w.heap.size := lt_of_block hA.cells
  obtain ⟨n, hn⟩ : ∃ n, n = padN s.2.length := ⟨_, rfl⟩
  obtain ⟨told, ht⟩ : ∃ told, IntKind.u64.wrap (len * 8) = told := ⟨_, rfl⟩
  have HN : Hid (n = padN s.2.length) := hn
  have HT : Hid (IntKind.u64.wrap (len * 8) = told) := ht
  have hmk := run_make_row' (P := Tryd.prog) 25 5 (.int .u8 0) 1 Tryd.underlying25 Tryd.info_u8 rfl .i64 .i64 n (by rw [hn]; unfold padN; split <;> omega) (by rw [hn]; unfold padN; split <;> omega)
  obtain ⟨p, hpe⟩ : ∃ p, p = s.2.length := ⟨_, rfl⟩
  have HPE : Hid (p = s.2.length) := hpe
  rw [← hpe] at hn c72 hp
  have HV : Hid (Vars w) := hV
  clear hA hpe hH hV
  have hm0 : (madeCells #[Value.int .u8 0] n)[0]? = some (.int .u8 0) := by
    rw [← Array.getElem?_toList, toList_madeCells_one, List.getElem?_replicate, if_pos (by rw [hn]; unfold padN; split <;> omega)]
  have hms : madeCells #[Value.int .u8 0] n = (List.replicate n (Value.int .u8 0)).toArray := by rw [← toList_madeCells_one]
  have hn8 : 9 ≤ n := by rw [hn]; unfold padN; split <;> omega
  have hn9 : n ≤ 128 := by rw [hn]; unfold padN; split <;> omega
  generalize madeCells #[Value.int .u8 0] n = mc at *
  have HMS : Hid _ := hms
  clear hms
  go_enter Tryd.func69, Tryd.ntmps69
  by_cases hroom : 63 - p < 8
  · have hn' : (1 : Int) + (63 - (p : Int) + 64) = n := by rw [hn]; unfold padN; rw [if_pos hroom]; omega
    clear hn
    go_wp2
    clear hm0 hmk c72 c73
    go_loopw [25] (fun c wr => ∃ k : Nat, k ≤ 8 ∧ c = .int .i64 k ∧ Hid (wr.heap[w.heap.size]? = some (.cells ((padFrom n told k).map (Value.int .u8)).toArray 5 (0, 0))) ∧ Kept [] w wr) (fun c _ => 8 - (intOf c).toNat)
    case atStart =>
      refine ⟨0, Nat.zero_le _, rfl, ?_, (Kept.refl [] w).alloc _⟩
      have e : mc.setIfInBounds 0 (Value.int .u8 128) = ((padFrom n told 0).map (Value.int .u8)).toArray := by
        rw [HMS.out, padFrom_zero, List.map_set, List.map_replicate, List.setIfInBounds_toArray]
      rw [e]
      exact heap_alloc_new w _
    case round =>
      obtain ⟨k, hk, rfl, H1, hkw⟩ := hrel
      have hb1' := lt_of_block H1.out
      by_cases hlt : k < 8
      · have hlen := padFrom_len n told k
        have HN1 : Hid (padFrom n told (k + 1) = (padFrom n told k).set (n - 1 - k) (IntKind.u8.wrap (told / 2 ^ (8 * k)))) := by
          show _ = _
          rw [padFrom_succ, padStep, hlen]
        have HP : Hid (∀ x, Hid ((wr.setCell ⟨w.heap.size, n - 1 - k, none⟩ (.int .u8 x)).heap[w.heap.size]? = some (.cells (((padFrom n told k).set (n - 1 - k) x).map (Value.int .u8)).toArray 5 (0, 0)))) := fun x => row_put H1.out (n - 1 - k) x
        have j1 : (n : Int) - 1 - (k : Int) = ((n - 1 - k : Nat) : Int) := by omega
        have j2 : n - 1 - k < n := by omega
        have j3 : (8 : Int) * (k : Int) = ((8 * k : Nat) : Int) := by omega
        have j4 : ((8 * k : Nat) : Int) ≤ 64 := by omega
        have c1 : ∃ u, wr.cell? ⟨w.heap.size, n - 1 - k, none⟩ = some u := by
          rw [cell_of_row _ _ _ _ _ _ H1.out]
          exact ⟨_, Array.getElem?_eq_getElem (by simp; omega)⟩
        obtain ⟨u, c1⟩ := c1
        have f1 := frozen_of_row wr w.heap.size (n - 1 - k) _ _ H1.out
        clear hlen
        generalize n - 1 - k = j at *
        generalize 8 * k = m at *
        go_wp2
        go_roundw
        case rel =>
          refine ⟨k + 1, by omega, by go_num, ?_, hkw.setCell (Or.inr (Nat.le_refl _)) _⟩
          rw [HN1.out]
          exact HP.out _
        case measure => simp [intOf]; omega
      · obtain rfl : k = 8 := by omega
        rw [show ((8 : Nat) : Int) = 8 from rfl]
        have hV : Vars wr := HV.out.kept hkw (by simp) (by simp)
        have hbt := row_bytes' H1.out
        rw [padFrom_len] at hbt
        have hH := HH.out.kept hkw (by simp)
        have HWr := Write_any wr b s len _ _ hV hb0 hb1 hH hbt (padFrom_octs n told 8) (fun q hq _ => apart_new hbl q hq) (by rw [padFrom_len]; omega)
        clear hV hbt hH
        go_wp2_with (go_at_call 37; refine HWr.mono ?_; rintro e w2 ⟨rfl, hH2, hk2⟩; have HH2 : Hid _ := hH2; clear hH2)
        go_end0
        refine ⟨rfl, ?_, (hkw.more (by simp)).then hk2⟩
        have := HH2.out
        rw [padFrom_len, HN.out] at this
        unfold padL
        rw [HT.out]
        exact this
  · have hn' : (1 : Int) + (63 - (p : Int)) = n := by rw [hn]; unfold padN; rw [if_neg hroom]; omega
    clear hn
    go_wp2
    clear hm0 hmk c72 c73
    go_loopw [25] (fun c wr => ∃ k : Nat, k ≤ 8 ∧ c = .int .i64 k ∧ Hid (wr.heap[w.heap.size]? = some (.cells ((padFrom n told k).map (Value.int .u8)).toArray 5 (0, 0))) ∧ Kept [] w wr) (fun c _ => 8 - (intOf c).toNat)
    case atStart =>
      refine ⟨0, Nat.zero_le _, rfl, ?_, (Kept.refl [] w).alloc _⟩
      have e : mc.setIfInBounds 0 (Value.int .u8 128) = ((padFrom n told 0).map (Value.int .u8)).toArray := by
        rw [HMS.out, padFrom_zero, List.map_set, List.map_replicate, List.setIfInBounds_toArray]
      rw [e]
      exact heap_alloc_new w _
    case round =>
      obtain ⟨k, hk, rfl, H1, hkw⟩ := hrel
      have hb1' := lt_of_block H1.out
      by_cases hlt : k < 8
      · have hlen := padFrom_len n told k
        have HN1 : Hid (padFrom n told (k + 1) = (padFrom n told k).set (n - 1 - k) (IntKind.u8.wrap (told / 2 ^ (8 * k)))) := by
          show _ = _
          rw [padFrom_succ, padStep, hlen]
        have HP : Hid (∀ x, Hid ((wr.setCell ⟨w.heap.size, n - 1 - k, none⟩ (.int .u8 x)).heap[w.heap.size]? = some (.cells (((padFrom n told k).set (n - 1 - k) x).map (Value.int .u8)).toArray 5 (0, 0)))) := fun x => row_put H1.out (n - 1 - k) x
        have j1 : (n : Int) - 1 - (k : Int) = ((n - 1 - k : Nat) : Int) := by omega
        have j2 : n - 1 - k < n := by omega
        have j3 : (8 : Int) * (k : Int) = ((8 * k : Nat) : Int) := by omega
        have j4 : ((8 * k : Nat) : Int) ≤ 64 := by omega
        have c1 : ∃ u, wr.cell? ⟨w.heap.size, n - 1 - k, none⟩ = some u := by
          rw [cell_of_row _ _ _ _ _ _ H1.out]
          exact ⟨_, Array.getElem?_eq_getElem (by simp; omega)⟩
        obtain ⟨u, c1⟩ := c1
        have f1 := frozen_of_row wr w.heap.size (n - 1 - k) _ _ H1.out
        clear hlen
        generalize n - 1 - k = j at *
        generalize 8 * k = m at *
        go_wp2
        go_roundw
        case rel =>
          refine ⟨k + 1, by omega, by go_num, ?_, hkw.setCell (Or.inr (Nat.le_refl _)) _⟩
          rw [HN1.out]
          exact HP.out _
        case measure => simp [intOf]; omega
      · obtain rfl : k = 8 := by omega
        rw [show ((8 : Nat) : Int) = 8 from rfl]
        have hV : Vars wr := HV.out.kept hkw (by simp) (by simp)
        have hbt := row_bytes' H1.out
        rw [padFrom_len] at hbt
        have hH := HH.out.kept hkw (by simp)
        have HWr := Write_any wr b s len _ _ hV hb0 hb1 hH hbt (padFrom_octs n told 8) (fun q hq _ => apart_new hbl q hq) (by rw [padFrom_len]; omega)
        clear hV hbt hH
        go_wp2_with (go_at_call 37; refine HWr.mono ?_; rintro e w2 ⟨rfl, hH2, hk2⟩; have HH2 : Hid _ := hH2; clear hH2)
        go_end0
        refine ⟨rfl, ?_, (hkw.more (by simp)).then hk2⟩
        have := HH2.out
        rw [padFrom_len, HN.out] at this
        unfold padL
        rw [HT.out]
        exact this
end Go.Proofs.YtlljiipmkjjhhaaDoor
