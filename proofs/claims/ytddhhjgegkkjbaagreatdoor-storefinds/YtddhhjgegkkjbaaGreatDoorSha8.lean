/-
  WALKS: digest.New, (*digest.Hash).pad, for every Hash.
  WALKS: digest.New, (*digest.Hash).Sum.
  WALKS: digest.Sum, for every list of bytes; satchellaw2.right answers true.
-/
import Derived.Test.YtddhhjgegkkjbaaGreatDoorSha5
import Derived.Test.YtddhhjgegkkjbaaGreatDoorRowP
import Derived.Deep.MidRow
namespace Go.Proofs.YtddhhjgegkkjbaaGreatDoor
open Go.RowKit

/-- The end of the padded text, behind so many bytes in the last block and so many in all. -/
def padStep (told : Int) (l : List Int) (i : Nat) : List Int := l.set (l.length - 1 - i) (IntKind.u8.wrap (told / 2 ^ (8 * i)))
def padFrom (n : Nat) (told : Int) (k : Nat) : List Int := (List.range k).foldl (padStep told) ((List.replicate n 0).set 0 128)
theorem padFrom_zero (n : Nat) (told : Int) : padFrom n told 0 = (List.replicate n 0).set 0 128 := rfl
theorem padFrom_succ (n : Nat) (told : Int) (k : Nat) : padFrom n told (k + 1) = padStep told (padFrom n told k) k := by
  unfold padFrom; rw [List.range_succ, List.foldl_append]; rfl
theorem padFrom_len (n : Nat) (told : Int) (k : Nat) : (padFrom n told k).length = n := by
  induction k with
  | zero => rw [padFrom_zero]; simp
  | succ k ih => rw [padFrom_succ, padStep, List.length_set, ih]
theorem u8_octs (x : Int) : 0 ≤ IntKind.u8.wrap x ∧ IntKind.u8.wrap x ≤ 255 := by rw [IntKind.wrap_u8']; omega
theorem octs_set {l : List Int} (h : Octs l) (i : Nat) (x : Int) (hx : 0 ≤ x ∧ x ≤ 255) : Octs (l.set i x) := by
  intro u hu
  rcases List.mem_or_eq_of_mem_set hu with h1 | h1
  · exact h u h1
  · rw [h1]; exact hx
theorem padFrom_octs (n : Nat) (told : Int) (k : Nat) : Octs (padFrom n told k) := by
  induction k with
  | zero =>
    rw [padFrom_zero]
    exact octs_set (fun u hu => by rw [(List.mem_replicate.1 hu).2]; decide) _ _ (by decide)
  | succ k ih => rw [padFrom_succ]; exact octs_set ih _ _ (u8_octs _)
theorem apart_new {b g n c : Nat} (h : b < g) : ∀ q, blkOf (.slice (some ⟨g, 0, none⟩) n c) = some q → q ≠ b := by
  intro q hq
  cases hq
  exact Nat.ne_of_gt h
/-- How many bytes the padding has. -/
def padN (p : Nat) : Nat := if 63 - p < 8 then 128 - p else 64 - p
def padL (p : Nat) (len : Int) : List Int := padFrom (padN p) (IntKind.u64.wrap (len * 8)) 8

set_option maxRecDepth 100000 in
set_option maxHeartbeats 4000000 in
theorem pad_any (w : World) (b : Nat) (s : List Int × List Int) (len : Int) (hV : Vars w) (hb0 : b ≠ 0) (hb1 : b ≠ 2) (hH : HashOf w b s len) :
    Calls Tryz.prog 59 #[.pointer (some ⟨b, 0, none⟩)] w fun e w' => e = .returned (.tuple #[]) ∧ HashOf w' b (feedL s (padL s.2.length len)) (IntKind.u64.wrap (len + padN s.2.length)) ∧ Kept [b] w w' := by
  obtain ⟨rest, hA, hp⟩ := id hH
  have c72 := hA.filled
  have c73 := hA.length
  have HH : Hid (HashOf w b s len) := hH
  have hbl : b < w.heap.size := lt_of_block hA.cells
  obtain ⟨n, hn⟩ : ∃ n, n = padN s.2.length := ⟨_, rfl⟩
  obtain ⟨told, ht⟩ : ∃ told, IntKind.u64.wrap (len * 8) = told := ⟨_, rfl⟩
  have HN : Hid (n = padN s.2.length) := hn
  have HT : Hid (IntKind.u64.wrap (len * 8) = told) := ht
  have hmk := run_make_row' (P := Tryz.prog) 37 5 (.int .u8 0) 1 Tryz.underlying37 Tryz.info_u8 rfl .i64 .i64 n (by rw [hn]; unfold padN; split <;> omega) (by rw [hn]; unfold padN; split <;> omega)
  obtain ⟨p, hpe⟩ : ∃ p, p = s.2.length := ⟨_, rfl⟩
  have HPE : Hid (p = s.2.length) := hpe
  rw [← hpe] at hn c72 hp
  have HV : Hid (Vars w) := hV
  clear hA hpe hH hV
  have hm0 : (madeCells #[Value.int .u8 0] n)[0]? = some (.int .u8 0) := by
    rw [← Array.getElem?_toList, toList_madeCells_one, List.getElem?_replicate, if_pos (by rw [hn]; unfold padN; split <;> omega)]
  have hms : madeCells #[Value.int .u8 0] n = (List.replicate n (Value.int .u8 0)).toArray := by rw [← toList_madeCells_one]
  have hn8 : 9 ≤ n := by rw [hn]; unfold padN; split <;> omega
  have hn9 : n ≤ 128 := by rw [hn]; unfold padN; split <;> omega
  generalize madeCells #[Value.int .u8 0] n = mc at *
  have HMS : Hid _ := hms
  clear hms
  go_enter Tryz.func59, Tryz.ntmps59
  by_cases hroom : 63 - p < 8
  · have hn' : (1 : Int) + (63 - (p : Int) + 64) = n := by rw [hn]; unfold padN; rw [if_pos hroom]; omega
    clear hn
    go_wp2
    clear hm0 hmk c72 c73
    go_loopw [25] (fun c wr => ∃ k : Nat, k ≤ 8 ∧ c = .int .i64 k ∧ Hid (wr.heap[w.heap.size]? = some (.cells ((padFrom n told k).map (Value.int .u8)).toArray 5 (0, 0))) ∧ Kept [] w wr) (fun c _ => 8 - (intOf c).toNat)
    case atStart =>
      refine ⟨0, Nat.zero_le _, rfl, ?_, (Kept.refl [] w).alloc _⟩
      have e : mc.setIfInBounds 0 (Value.int .u8 128) = ((padFrom n told 0).map (Value.int .u8)).toArray := by
        rw [HMS.out, padFrom_zero, List.map_set, List.map_replicate, List.setIfInBounds_toArray]
      rw [e]
      exact heap_alloc_new w _
    case round =>
      obtain ⟨k, hk, rfl, H1, hkw⟩ := hrel
      have hb1' := lt_of_block H1.out
      by_cases hlt : k < 8
      · have hlen := padFrom_len n told k
        have HN1 : Hid (padFrom n told (k + 1) = (padFrom n told k).set (n - 1 - k) (IntKind.u8.wrap (told / 2 ^ (8 * k)))) := by
          show _ = _
          rw [padFrom_succ, padStep, hlen]
        have HP : Hid (∀ x, Hid ((wr.setCell ⟨w.heap.size, n - 1 - k, none⟩ (.int .u8 x)).heap[w.heap.size]? = some (.cells (((padFrom n told k).set (n - 1 - k) x).map (Value.int .u8)).toArray 5 (0, 0)))) := fun x => row_put H1.out (n - 1 - k) x
        have j1 : (n : Int) - 1 - (k : Int) = ((n - 1 - k : Nat) : Int) := by omega
        have j2 : n - 1 - k < n := by omega
        have j3 : (8 : Int) * (k : Int) = ((8 * k : Nat) : Int) := by omega
        have j4 : ((8 * k : Nat) : Int) ≤ 64 := by omega
        have c1 : ∃ u, wr.cell? ⟨w.heap.size, n - 1 - k, none⟩ = some u := by
          rw [cell_of_row _ _ _ _ _ _ H1.out]
          exact ⟨_, Array.getElem?_eq_getElem (by simp; omega)⟩
        obtain ⟨u, c1⟩ := c1
        have f1 := frozen_of_row wr w.heap.size (n - 1 - k) _ _ H1.out
        clear hlen
        generalize n - 1 - k = j at *
        generalize 8 * k = m at *
        go_wp2
        go_roundw
        case rel =>
          refine ⟨k + 1, by omega, by go_num, ?_, hkw.setCell (Or.inr (Nat.le_refl _)) _⟩
          rw [HN1.out]
          exact HP.out _
        case measure => simp [intOf]; omega
      · obtain rfl : k = 8 := by omega
        rw [show ((8 : Nat) : Int) = 8 from rfl]
        have hV : Vars wr := HV.out.kept hkw (by simp) (by simp)
        have hbt := row_bytes' H1.out
        rw [padFrom_len] at hbt
        have hH := HH.out.kept hkw (by simp)
        have HWr := Write_any wr b s len _ _ hV hb0 hb1 hH hbt (padFrom_octs n told 8) (fun q hq _ => apart_new hbl q hq) (by rw [padFrom_len]; omega)
        clear hV hbt hH
        go_wp2_with (go_at_call 40; refine HWr.mono ?_; rintro e w2 ⟨rfl, hH2, hk2⟩; have HH2 : Hid _ := hH2; clear hH2)
        go_end0
        refine ⟨rfl, ?_, (hkw.more (by simp)).then hk2⟩
        have := HH2.out
        rw [padFrom_len, HN.out] at this
        unfold padL
        rw [HT.out]
        exact this
  · have hn' : (1 : Int) + (63 - (p : Int)) = n := by rw [hn]; unfold padN; rw [if_neg hroom]; omega
    clear hn
    go_wp2
    clear hm0 hmk c72 c73
    go_loopw [25] (fun c wr => ∃ k : Nat, k ≤ 8 ∧ c = .int .i64 k ∧ Hid (wr.heap[w.heap.size]? = some (.cells ((padFrom n told k).map (Value.int .u8)).toArray 5 (0, 0))) ∧ Kept [] w wr) (fun c _ => 8 - (intOf c).toNat)
    case atStart =>
      refine ⟨0, Nat.zero_le _, rfl, ?_, (Kept.refl [] w).alloc _⟩
      have e : mc.setIfInBounds 0 (Value.int .u8 128) = ((padFrom n told 0).map (Value.int .u8)).toArray := by
        rw [HMS.out, padFrom_zero, List.map_set, List.map_replicate, List.setIfInBounds_toArray]
      rw [e]
      exact heap_alloc_new w _
    case round =>
      obtain ⟨k, hk, rfl, H1, hkw⟩ := hrel
      have hb1' := lt_of_block H1.out
      by_cases hlt : k < 8
      · have hlen := padFrom_len n told k
        have HN1 : Hid (padFrom n told (k + 1) = (padFrom n told k).set (n - 1 - k) (IntKind.u8.wrap (told / 2 ^ (8 * k)))) := by
          show _ = _
          rw [padFrom_succ, padStep, hlen]
        have HP : Hid (∀ x, Hid ((wr.setCell ⟨w.heap.size, n - 1 - k, none⟩ (.int .u8 x)).heap[w.heap.size]? = some (.cells (((padFrom n told k).set (n - 1 - k) x).map (Value.int .u8)).toArray 5 (0, 0)))) := fun x => row_put H1.out (n - 1 - k) x
        have j1 : (n : Int) - 1 - (k : Int) = ((n - 1 - k : Nat) : Int) := by omega
        have j2 : n - 1 - k < n := by omega
        have j3 : (8 : Int) * (k : Int) = ((8 * k : Nat) : Int) := by omega
        have j4 : ((8 * k : Nat) : Int) ≤ 64 := by omega
        have c1 : ∃ u, wr.cell? ⟨w.heap.size, n - 1 - k, none⟩ = some u := by
          rw [cell_of_row _ _ _ _ _ _ H1.out]
          exact ⟨_, Array.getElem?_eq_getElem (by simp; omega)⟩
        obtain ⟨u, c1⟩ := c1
        have f1 := frozen_of_row wr w.heap.size (n - 1 - k) _ _ H1.out
        clear hlen
        generalize n - 1 - k = j at *
        generalize 8 * k = m at *
        go_wp2
        go_roundw
        case rel =>
          refine ⟨k + 1, by omega, by go_num, ?_, hkw.setCell (Or.inr (Nat.le_refl _)) _⟩
          rw [HN1.out]
          exact HP.out _
        case measure => simp [intOf]; omega
      · obtain rfl : k = 8 := by omega
        rw [show ((8 : Nat) : Int) = 8 from rfl]
        have hV : Vars wr := HV.out.kept hkw (by simp) (by simp)
        have hbt := row_bytes' H1.out
        rw [padFrom_len] at hbt
        have hH := HH.out.kept hkw (by simp)
        have HWr := Write_any wr b s len _ _ hV hb0 hb1 hH hbt (padFrom_octs n told 8) (fun q hq _ => apart_new hbl q hq) (by rw [padFrom_len]; omega)
        clear hV hbt hH
        go_wp2_with (go_at_call 40; refine HWr.mono ?_; rintro e w2 ⟨rfl, hH2, hk2⟩; have HH2 : Hid _ := hH2; clear hH2)
        go_end0
        refine ⟨rfl, ?_, (hkw.more (by simp)).then hk2⟩
        have := HH2.out
        rw [padFrom_len, HN.out] at this
        unfold padL
        rw [HT.out]
        exact this
end Go.Proofs.YtddhhjgegkkjbaaGreatDoor

namespace Go.Proofs.YtddhhjgegkkjbaaGreatDoor
open Go.RowKit

theorem Vars.lt {w : World} (h : Vars w) : 0 < w.heap.size ∧ 2 < w.heap.size := by
  obtain ⟨_, _, h0⟩ := h.first
  obtain ⟨_, _, h1⟩ := h.turn
  exact ⟨lt_of_block h0, lt_of_block h1⟩

theorem Tryz.infoW8 : (Tryz.prog.info? 110).map (·.size) = some 8 := by kernel_rfl
theorem Tryz.infoHash : (Tryz.prog.info? 113).map (·.size) = some 74 := by kernel_rfl

theorem Tryz.zeroHash (W : World) : (zeroValue 113).run Tryz.prog W = .ok (.agg (hashC (List.replicate 8 0) zero64 0 0)) W := by kernel_rfl
def zid : List Int := List.replicate 32 0

set_option maxRecDepth 100000 in
set_option maxHeartbeats 4000000 in
theorem HNew_any (w : World) (hV : Vars w) :
    Calls Tryz.prog 39 #[] w fun e w' => e = .returned (.pointer (some ⟨w.heap.size, 0, none⟩)) ∧ HashOf w' w.heap.size (firstL, []) 0 ∧ Kept [] w w' := by
  obtain ⟨ty, fr, h0⟩ := hV.first
  have hsz : (Tryz.prog.info? 110).map (·.size) = some (wC firstL).size := Tryz.infoW8
  obtain ⟨Z, hZ⟩ : ∃ Z, Z = hashC (List.replicate 8 0) zero64 0 0 := ⟨_, rfl⟩
  have hz := Tryz.zeroHash
  rw [← hZ] at hz
  have hz8 : ¬ Z.size < 8 := by rw [hZ, hashC_size (ws := List.replicate 8 0) (blk := zero64) (f := 0) (len := 0) rfl rfl]; omega
  have HZ : Hid (Z = hashC (List.replicate 8 0) zero64 0 0) := hZ
  clear hZ
  go_enter Tryz.func39, Tryz.ntmps39
  go_wp2_with (refine wpList_load_row rfl 110 (.global 0) rfl 0 rfl ty #[.int .u32 1779033703, .int .u32 3144134277, .int .u32 1013904242, .int .u32 2773480762, .int .u32 1359893119, .int .u32 2600822924, .int .u32 528734635, .int .u32 1541459225] fr _ h0 Tryz.underlying110 rfl hsz ?_)
  go_ret
  refine ⟨rfl, ⟨zero64, ⟨?_, rfl, rfl, ?_⟩, by decide⟩, (Kept.refl [] w).alloc _⟩
  · refine (heap_alloc_new w _).trans ?_
    rw [HZ.out]
    rfl
  intro u hu
  rw [(List.mem_replicate.1 hu).2]
  decide

/-- The bytes of eight words. -/
def outStep (ws l : List Int) (n : Nat) : List Int := l.set n (at0 ws (n / 4) / 2 ^ (8 * (3 - n % 4)) % 256)
def outK (ws : List Int) (k : Nat) : List Int := (List.range k).foldl (outStep ws) zid
theorem outK_zero (ws : List Int) : outK ws 0 = zid := rfl
theorem outK_succ (ws : List Int) (k : Nat) : outK ws (k + 1) = outStep ws (outK ws k) k := by
  unfold outK; rw [List.range_succ, List.foldl_append]; rfl
theorem outK_len (ws : List Int) (k : Nat) : (outK ws k).length = 32 := by
  induction k with
  | zero => rfl
  | succ k ih => rw [outK_succ, outStep, List.length_set, ih]
theorem outK_octs (ws : List Int) (k : Nat) : Octs (outK ws k) := by
  induction k with
  | zero => exact fun u hu => by rw [(List.mem_replicate.1 hu).2]; decide
  | succ k ih => rw [outK_succ]; exact octs_set ih _ _ ⟨Int.emod_nonneg _ (by decide), by have := Int.emod_lt_of_pos (at0 ws (k / 4) / 2 ^ (8 * (3 - k % 4))) (show (0 : Int) < 256 by decide); omega⟩
def sumL (s : List Int × List Int) (len : Int) : List Int := outK (feedL s (padL s.2.length len)).1 32
theorem sumL_len (s : List Int × List Int) (len : Int) : (sumL s len).length = 32 := outK_len _ _
theorem sumL_octs (s : List Int × List Int) (len : Int) : Octs (sumL s len) := outK_octs _ _
theorem words_index (ws : List Int) (hw : ws.length = 8) (k : Nat) (h : k < 8) (W : World) : (Instr.index 110 (.agg (wC ws)) (.int .i64 k)).run Tryz.prog W = .ok (.int .u32 (at0 ws k)) W := by
  match ws, hw with
  | [a, b, c, d, e, f, g, h'], _ => exact eight_index ⟨a, b, c, d, e, f, g, h'⟩ k h W

theorem words_index' (ws : List Int) (hw : ws.length = 8) (wc : Array Value) (h : wc = wC ws) : ∀ k : Nat, k < 8 → ∀ W, (Instr.index 110 (.agg wc) (.int .i64 k)).run Tryz.prog W = .ok (.int .u32 (at0 ws k)) W := by
  subst h
  exact fun k hk W => words_index ws hw k hk W

set_option maxRecDepth 100000 in
set_option maxHeartbeats 4000000 in
theorem HSum_any (w : World) (b : Nat) (s : List Int × List Int) (len : Int) (hV : Vars w) (hH : HashOf w b s len) :
    Calls Tryz.prog 41 #[.pointer (some ⟨b, 0, none⟩)] w fun e w' => e = .returned (.agg (idC (sumL s len))) ∧ Kept [] w w' := by
  obtain ⟨rest, hA, hp⟩ := hH
  have hlt := hV.lt
  have hbl : b < w.heap.size := lt_of_block hA.cells
  obtain ⟨cs, hcs⟩ : ∃ cs, cs = hashC s.1 (s.2 ++ rest) s.2.length len := ⟨_, rfl⟩
  have hsz : (Tryz.prog.info? 113).map (·.size) = some cs.size := by rw [hcs, hashC_size hA.words hA.bytes]; exact Tryz.infoHash
  have h74 : cs.size = 74 := by rw [hcs, hashC_size hA.words hA.bytes]
  have hall : cs.all (·.oneCell') = true := by
    rw [hcs]
    simp [hashC, wC, Value.oneCell']
  have HCS : Hid (cs = hashC s.1 (s.2 ++ rest) s.2.length len) := hcs
  have HB : Hid ((w.alloc (.cells (idC zid) 36)).heap[b]? = some (.cells cs 113 (0, 0))) := by
    rw [hcs]; exact (Below.heap_alloc _ _ _ hbl).trans hA.cells
  have HA : Hid _ := hA
  have HV : Hid (Vars w) := hV
  clear hcs hA hV
  obtain ⟨Z, hZ⟩ : ∃ Z, Z = hashC (List.replicate 8 0) zero64 0 0 := ⟨_, rfl⟩
  have hz := Tryz.zeroHash
  rw [← hZ] at hz
  have hz74 : Z.size = cs.size := by rw [hZ, h74, hashC_size (ws := List.replicate 8 0) (blk := zero64) (f := 0) (len := 0) rfl rfl]
  clear hZ h74
  go_enter Tryz.func41, Tryz.ntmps41
  go_wp2_with (first
    | (refine wpList_load_row rfl 113 (.tmp 9) rfl b rfl 113 cs (0, 0) _ HB.out Tryz.underlying113 rfl hsz ?_)
    | (refine wpList_store_row (by rfl) 113 (.tmp 3) (.tmp 10) (by rfl) (w.heap.size + 1) cs (by rfl) (by rfl) 113 _ (heap_alloc2_new w _ _) hsz hz74 hall ?_
       have HW2 : Hid ((((w.alloc (.cells (idC zid) 36)).alloc (.cells Z 113)).setRow (w.heap.size + 1) cs).heap[w.heap.size + 1]? = some (.cells cs 113 (0, 0))) := setRow_heap _ _ _ _ _ _ (heap_alloc2_new w _ _)
       have HI2 : Hid ((((w.alloc (.cells (idC zid) 36)).alloc (.cells Z 113)).setRow (w.heap.size + 1) cs).heap[w.heap.size]? = some (.cells (idC zid) 36 (0, 0))) := (setRow_other _ _ _ _ (by simp)).trans ((Below.heap_alloc _ _ _ (by simp)).trans (heap_alloc_new w _))
       have HK2 : Hid (Kept [] w (((w.alloc (.cells (idC zid) 36)).alloc (.cells Z 113)).setRow (w.heap.size + 1) cs)) := kept_setRow (((Kept.refl [] w).alloc _).alloc _) (by simp) _
       have e0 : (((w.alloc (.cells (idC zid) 36)).alloc (.cells Z 113)).setRow (w.heap.size + 1) cs) = (((w.alloc (.cells #[.int .u8 0, .int .u8 0, .int .u8 0, .int .u8 0, .int .u8 0, .int .u8 0, .int .u8 0, .int .u8 0, .int .u8 0, .int .u8 0, .int .u8 0, .int .u8 0, .int .u8 0, .int .u8 0, .int .u8 0, .int .u8 0, .int .u8 0, .int .u8 0, .int .u8 0, .int .u8 0, .int .u8 0, .int .u8 0, .int .u8 0, .int .u8 0, .int .u8 0, .int .u8 0, .int .u8 0, .int .u8 0, .int .u8 0, .int .u8 0, .int .u8 0, .int .u8 0] 36)).alloc (.cells Z 113)).setRow (w.heap.size + 1) cs) := rfl
       rw [← e0]
       clear e0
       generalize ((w.alloc (.cells (idC zid) 36)).alloc (.cells Z 113)).setRow (w.heap.size + 1) cs = w2 at *
       rw [HCS.out] at HW2
       have HP := pad_any w2 (w.heap.size + 1) s len (HV.out.kept HK2.out (by simp) (by simp)) (by omega) (by omega) ⟨rest, ⟨HW2.out, HA.out.words, HA.out.bytes, HA.out.octs⟩, hp⟩)
    | (go_at_call 59; refine HP.mono ?_; rintro e w3 ⟨rfl, hH3, hk3⟩
       obtain ⟨rest3, hA3, hp3⟩ := hH3
       have HI3 : Hid (w3.heap[w.heap.size]? = some (.cells (idC zid) 36 (0, 0))) := hk3.heap HI2.out (by simp)
       have HK3 : Hid (Kept [] w w3) := HK2.out.trans hk3 (fun x hx => Or.inr (by simp at hx; omega))
       have HS : Hid (sumL s len = outK (feedL s (padL s.2.length len)).1 32) := rfl
       generalize feedL s (padL s.2.length len) = S at *
       have HA3 : Hid (∀ o, (w3.alloc o).rangeAt (w.heap.size + 1) 0 (S.1.map (Value.int .u32))) := fun o j v hv => by
         have hj : j < S.1.length := by simpa using (List.getElem?_eq_some_iff.1 hv).1
         have hw8 := hA3.words
         have hc := (hA3.kept ((Kept.refl [] w3).alloc o) (by simp)).word (j := j) (by omega)
         rw [Nat.zero_add, hc]
         simp only [List.getElem?_map, List.getElem?_eq_getElem hj, Option.map_some] at hv
         rw [← hv, at0, List.getElem?_eq_getElem hj]
         rfl
       have HW3 : Hid (S.1.length = 8) := hA3.words
       have hmid : (Tryz.prog.info? 110).map (·.size) = some (S.1.map (Value.int .u32)).length := by rw [List.length_map, hA3.words]; exact Tryz.infoW8
       obtain ⟨wc, hwc⟩ : ∃ wc, wc = wC S.1 := ⟨_, rfl⟩
       have HWC : Hid (wc = wC S.1) := hwc
       have HIX : Hid (∀ k : Nat, k < 8 → ∀ W, (Instr.index 110 (.agg wc) (.int .i64 k)).run Tryz.prog W = .ok (.int .u32 (at0 S.1 k)) W) := words_index' S.1 hA3.words wc hwc
       clear hA3 hp3 HP hk3 hwc)
    | (refine wpList_load_mid (by rfl) 110 (.tmp 12) (by rfl) (w.heap.size + 1) 0 (by rfl) (S.1.map (Value.int .u32)) _ (HA3.out _) Tryz.underlying110 rfl hmid ?_; rw [show (S.1.map (Value.int .u32)).toArray = wc from HWC.out.symm]))
  have hg3 : w.heap.size < w3.heap.size := lt_of_block HI3.out
  clear hmid HA3 hz hz74 hall hsz
  go_loopw [14] (fun c wr => ∃ i : Nat, i ≤ 8 ∧ c = .int .i64 i ∧ Hid (wr.heap[w.heap.size]? = some (.cells (idC zid) 36 (0, 0))) ∧ Hid (wr.heap[w3.heap.size]? = some (.cells (idC (outK S.1 (4 * i))) 36 (0, 0))) ∧ Kept [] w wr) (fun c _ => 8 - (intOf c).toNat)
  case atStart =>
    refine ⟨0, Nat.zero_le _, rfl, (Below.heap_alloc _ _ _ hg3).trans HI3.out, ?_, HK3.out.alloc _⟩
    rw [Nat.mul_zero, outK_zero]
    exact heap_alloc_new w3 _
  case round =>
    obtain ⟨i, hi, rfl, H0, H1, hkw⟩ := hrel
    by_cases hlt : i < 8
    · have hix := HIX.out i hlt
      generalize hy : at0 S.1 i = y at *
      have HY : Hid (at0 S.1 i = y) := hy
      clear hy
      have hd8 : decide ((i : Int) < 8) = true := decide_eq_true (by omega)
      clear HCS HB HA HV HW2 HI2 HK2 HI3 HK3 HW3 HWC HIX
      go_wp2
      go_loopw [18] (fun c wr => ∃ j : Nat, j ≤ 4 ∧ c = .int .i64 j ∧ Hid (wr.heap[w.heap.size]? = some (.cells (idC zid) 36 (0, 0))) ∧ Hid (wr.heap[w3.heap.size]? = some (.cells (idC (outK S.1 (4 * i + j))) 36 (0, 0))) ∧ Kept [] w wr) (fun c _ => 4 - (intOf c).toNat)
      case atStart => exact ⟨0, Nat.zero_le _, rfl, H0, H1, hkw⟩
      case round =>
        obtain ⟨j, hj, rfl, H0, H1, hkw⟩ := hrel
        have hb1 := lt_of_block H1.out
        by_cases hjlt : j < 4
        · have HN : Hid (outK S.1 (4 * i + (j + 1)) = (outK S.1 (4 * i + j)).set (4 * i + j) (at0 S.1 i / 2 ^ (8 * (3 - j)) % 256)) := by
            show _ = _
            rw [← Nat.add_assoc, outK_succ, outStep, show (4 * i + j) / 4 = i by omega, show (4 * i + j) % 4 = j by omega]
          have hlen := outK_len S.1 (4 * i + j)
          have c1 : wr.cell? ⟨w3.heap.size, 4 * i + j, none⟩ = some (.int .u8 ((outK S.1 (4 * i + j))[4 * i + j]?.getD 0)) := by
            rw [cell_of_row _ _ _ _ _ _ H1.out]
            exact idC_get (by omega)
          have f1 := frozen_of_row wr w3.heap.size (4 * i + j) _ _ H1.out
          have HP : Hid (∀ x, Hid ((wr.setCell ⟨w3.heap.size, 4 * i + j, none⟩ (.int .u8 x)).heap[w3.heap.size]? = some (.cells (idC ((outK S.1 (4 * i + j)).set (4 * i + j) x)) 36 (0, 0)))) := fun x => by
            show _ = _
            rw [heap_setCell_same _ _ _ _ _ _ H1.out]
            simp [idC, List.map_set]
          generalize (outK S.1 (4 * i + j))[4 * i + j]?.getD 0 = z at *
          have j1 : (4 : Int) * (i : Int) + (j : Int) = ((4 * i + j : Nat) : Int) := by omega
          have j2 : 4 * i + j < 32 := by omega
          have j3 : (8 : Int) * (3 - (j : Int)) = ((8 * (3 - j) : Nat) : Int) := by omega
          have j4 : ((8 * (3 - j) : Nat) : Int) ≤ 32 := by omega
          clear hix hlen
          rw [HY.out] at HN
          generalize hn : 4 * i + j = n at *
          generalize 8 * (3 - j) = m at *
          have hd4 : decide ((j : Int) < 4) = true := decide_eq_true (by omega)
          clear hn
          go_wp2
          go_roundw
          case rel =>
            refine ⟨j + 1, by omega, by go_num, (heap_setCell_other _ _ _ _ (Nat.ne_of_lt hg3)).trans H0.out, ?_, hkw.setCell (Or.inr (Nat.le_of_lt hg3)) _⟩
            rw [HN.out]
            exact HP.out _
          case measure => simp [intOf]; omega
        · obtain rfl : j = 4 := by omega
          rw [show ((4 : Nat) : Int) = 4 from rfl]
          go_wp2
          go_roundw
          case rel => exact ⟨i + 1, by omega, by go_num, H0, H1, hkw⟩
          case measure => simp [intOf]; omega
    · obtain rfl : i = 8 := by omega
      rw [show ((8 : Nat) : Int) = 8 from rfl]
      have hlen := outK_len S.1 32
      have H1' : Hid (wr.heap[w3.heap.size]? = some (.cells (idC (outK S.1 32)) 36 (0, 0))) := H1
      have HE : Hid (idC (sumL s len) = idC (outK S.1 32)) := by
        show _ = _
        rw [HS.out]
      obtain ⟨ic, hic⟩ : ∃ ic, ic = idC (outK S.1 32) := ⟨_, rfl⟩
      have HIC : Hid (ic = idC (outK S.1 32)) := hic
      have hszi : (Tryz.prog.info? 36).map (·.size) = some ic.size := by rw [hic, idC_size hlen]; exact Tryz.infoID
      have halli : ic.all (·.oneCell') = true := by rw [hic]; exact all_oneCell_toArray (map_oneCell _)
      have hosi : (idC zid).size = ic.size := by rw [hic, idC_size hlen]; rfl
      rw [← hic] at H1' HE
      clear hic H1 hlen
      go_wp2_with (first
        | (refine wpList_load_row rfl 36 (.tmp 4) rfl w3.heap.size rfl 36 ic (0, 0) _ H1'.out Tryz.underlying36 rfl hszi ?_)
        | (refine wpList_store_row rfl 36 (.tmp 2) (.tmp 34) rfl w.heap.size ic rfl rfl 36 _ H0.out hszi hosi halli ?_))
      refine bodyPost_ret (v := .agg ic) ?_ rfl ⟨by rw [HE.out], kept_setRow hkw (Nat.le_refl _) _⟩
      rw [results_cell rfl]
      have hld := run_loadVar_row (P := Tryz.prog) (wr.setRow w.heap.size ic) w.heap.size 36 36 ic (0, 0) _ (setRow_heap _ _ _ _ _ _ H0.out) Tryz.underlying36 rfl hszi
      exact hld
end Go.Proofs.YtddhhjgegkkjbaaGreatDoor

namespace Go.Proofs.YtddhhjgegkkjbaaGreatDoor
open Go.RowKit

/-- The digest of bytes. -/
def digL (xs : List Int) : List Int := sumL (feedL (firstL, []) xs) xs.length
theorem digL_len (xs : List Int) : (digL xs).length = 32 := sumL_len _ _
theorem digL_octs (xs : List Int) : Octs (digL xs) := sumL_octs _ _
/-- A Hash that these bytes were written to. -/
def HashX (w : World) (b : Nat) (xs : List Int) : Prop := HashOf w b (feedL (firstL, []) xs) xs.length ∧ b ≠ 0 ∧ b ≠ 2
theorem HashX.kept {S : List Nat} {w w' : World} {b : Nat} {xs : List Int} (h : HashX w b xs) (k : Kept S w w') (hn : b ∉ S) : HashX w' b xs := ⟨h.1.kept k hn, h.2⟩
theorem HashX.lt {w : World} {b : Nat} {xs : List Int} (h : HashX w b xs) : b < w.heap.size := by
  obtain ⟨⟨r, hA, _⟩, _⟩ := h
  exact lt_of_block hA.cells

theorem NewX_any (w : World) (hV : Vars w) :
    Calls Tryz.prog 39 #[] w fun e w' => e = .returned (.pointer (some ⟨w.heap.size, 0, none⟩)) ∧ HashX w' w.heap.size [] ∧ Kept [] w w' :=
  (HNew_any w hV).mono fun _ _ h => ⟨h.1, ⟨h.2.1, by have := hV.lt; omega, by have := hV.lt; omega⟩, h.2.2⟩
theorem WriteX_any (w : World) (b : Nat) (ys : List Int) (v : Value) (xs : List Int) (hV : Vars w) (hH : HashX w b ys) (hx : BytesAt w v xs) (ho : Octs xs) (hd : ∀ q, blkOf v = some q → xs ≠ [] → q ≠ b) (hn : xs.length ≤ 140737488355328) (hy : ys.length ≤ 9000000000000000000) :
    Calls Tryz.prog 40 #[.pointer (some ⟨b, 0, none⟩), v] w fun e w' => e = .returned (.tuple #[]) ∧ HashX w' b (ys ++ xs) ∧ Kept [b] w w' := by
  refine (Write_any w b _ _ v xs hV hH.2.1 hH.2.2 hH.1 hx ho hd hn).mono fun _ _ h => ⟨h.1, ⟨?_, hH.2⟩, h.2.2⟩
  have e : IntKind.u64.wrap ((ys.length : Int) + xs.length) = ((ys ++ xs).length : Int) := by
    rw [IntKind.wrap_u64, List.length_append]; omega
  have := h.2.1
  rw [e, ← feed_append] at this
  exact this
theorem SumX_any (w : World) (b : Nat) (xs : List Int) (hV : Vars w) (hH : HashX w b xs) :
    Calls Tryz.prog 41 #[.pointer (some ⟨b, 0, none⟩)] w fun e w' => e = .returned (.agg (idC (digL xs))) ∧ Kept [] w w' := HSum_any w b _ _ hV hH.1

theorem BytesAt.lt {w : World} {v : Value} {xs : List Int} (hx : BytesAt w v xs) : ∀ q, blkOf v = some q → xs ≠ [] → q < w.heap.size := by
  intro q hq hne
  obtain ⟨ao, cap, rfl, _, _, hc⟩ := hx
  obtain ⟨b, off, rfl, hh⟩ := hc hne
  cases hq
  cases xs with
  | nil => exact absurd rfl hne
  | cons x r => exact World.block_lt_of_cell? w _ (hh 0 x rfl)

set_option maxRecDepth 100000 in
set_option maxHeartbeats 4000000 in
theorem Sum_any (w : World) (v : Value) (xs : List Int) (hV : Vars w) (hx : BytesAt w v xs) (ho : Octs xs) (hn : xs.length ≤ 140737488355328) :
    Calls Tryz.prog 27 #[v] w fun e w' => e = .returned (.agg (idC (digL xs))) ∧ Kept [] w w' := by
  have hvl := hx.lt
  obtain ⟨ic, hic⟩ : ∃ ic, ic = idC (digL xs) := ⟨_, rfl⟩
  have hszi : (Tryz.prog.info? 36).map (·.size) = some ic.size := by rw [hic, idC_size (digL_len xs)]; exact Tryz.infoID
  have halli : ic.all (·.oneCell') = true := by rw [hic]; exact all_oneCell_toArray (map_oneCell _)
  have hosi : (idC zid).size = ic.size := by rw [hic, idC_size (digL_len xs)]; rfl
  have HV : Hid (∀ W, Kept [] w W → Vars W) := fun W hk => hV.kept hk (by simp) (by simp)
  have HW : Hid (∀ W, Kept [] w W → ∀ b, w.heap.size < b → HashX W b [] → Calls Tryz.prog 40 #[.pointer (some ⟨b, 0, none⟩), v] W fun e w' => e = .returned (.tuple #[]) ∧ HashX w' b xs ∧ Kept [b] W w') :=
    fun W hk b hb hH => WriteX_any W b [] v xs (HV.out W hk) hH (hx.kept' hk (by simp)) ho (fun q hq hne => by have := hvl q hq hne; omega) hn (by simp)
  have HS : Hid (∀ W, Vars W → ∀ b, HashX W b xs → Calls Tryz.prog 41 #[.pointer (some ⟨b, 0, none⟩)] W fun e w' => e = .returned (.agg ic) ∧ Kept [] W w') := by
    rw [hic]; exact fun W h b hH => SumX_any W b xs h hH
  have HI : Hid (ic = idC (digL xs)) := hic
  have HN := NewX_any (w.alloc (.cells (idC zid) 36)) (HV.out _ ((Kept.refl [] w).alloc _))
  rw [show (w.alloc (.cells (idC zid) 36)).heap.size = w.heap.size + 1 by simp] at HN
  clear hvl hV hx ho hn hic
  go_enter Tryz.func27, Tryz.ntmps27
  go_wp2_with (first
    | (go_at_call 39; refine HN.mono ?_; rintro e w1 ⟨rfl, hH1, hk1⟩
       have HI1 : Hid (w1.heap[w.heap.size]? = some (.cells (idC zid) 36 (0, 0))) := hk1.heap (heap_alloc_new w _) (by simp)
       have HK1 : Hid (Kept [] w w1) := ((Kept.refl [] w).alloc _).then hk1
       have HW1 := HW.out w1 HK1.out (w.heap.size + 1) (by omega) hH1
       clear hH1 hk1)
    | (go_at_call 40; refine HW1.mono ?_; rintro e w2 ⟨rfl, hH2, hk2⟩
       have HI2 : Hid (w2.heap[w.heap.size]? = some (.cells (idC zid) 36 (0, 0))) := hk2.heap HI1.out (by simp)
       have HK2 : Hid (Kept [] w w2) := HK1.out.trans hk2 (fun x hx => Or.inr (by simp at hx; omega))
       have HS2 := HS.out w2 (HV.out w2 HK2.out) (w.heap.size + 1) hH2
       clear hH2 hk2)
    | (go_at_call 41; refine HS2.mono ?_; rintro e w3 ⟨rfl, hk3⟩
       have HI3 : Hid (w3.heap[w.heap.size]? = some (.cells (idC zid) 36 (0, 0))) := hk3.heap HI2.out (by simp)
       have HK3 : Hid (Kept [] w w3) := HK2.out.then hk3
       clear hk3)
    | (refine wpList_store_row rfl 36 (.tmp 2) (.tmp 9) rfl w.heap.size ic rfl rfl 36 _ HI3.out hszi hosi halli ?_))
  refine bodyPost_ret (v := .agg ic) ?_ rfl ⟨by rw [HI.out], kept_setRow HK3.out (Nat.le_refl _) _⟩
  rw [results_cell rfl]
  have hld := run_loadVar_row (P := Tryz.prog) (w3.setRow w.heap.size ic) w.heap.size 36 36 ic (0, 0) _ (setRow_heap _ _ _ _ _ _ HI3.out) Tryz.underlying36 rfl hszi
  exact hld
end Go.Proofs.YtddhhjgegkkjbaaGreatDoor
