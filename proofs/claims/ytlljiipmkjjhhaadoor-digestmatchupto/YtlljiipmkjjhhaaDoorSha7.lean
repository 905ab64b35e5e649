/-
  WALKS: digest.New, (*digest.Hash).Sum.
-/
import Derived.Test.YtlljiipmkjjhhaaDoorSha6
import Derived.Deep.MidRow
namespace Go.Proofs.YtlljiipmkjjhhaaDoor
open Go.RowKit

theorem Vars.lt {w : World} (h : Vars w) : 1 < w.heap.size ∧ 2 < w.heap.size := by
  obtain ⟨_, _, h0⟩ := h.first
  obtain ⟨_, _, h1⟩ := h.turn
  exact ⟨lt_of_block h0, lt_of_block h1⟩

theorem Tryd.infoW8 : (Tryd.prog.info? 92).map (·.size) = some 8 := by kernel_rfl
theorem Tryd.infoHash : (Tryd.prog.info? 95).map (·.size) = some 74 := by kernel_rfl

theorem Tryd.zeroHash (W : World) : (zeroValue 95).run Tryd.prog W = .ok (.agg (hashC (List.replicate 8 0) zero64 0 0)) W := by kernel_rfl
def zid : List Int := List.replicate 32 0

set_option maxRecDepth 100000 in
set_option maxHeartbeats 4000000 in
theorem HNew_any (w : World) (hV : Vars w) :
    Calls Tryd.prog 36 #[] w fun e w' => e = .returned (.pointer (some ⟨w.heap.size, 0, none⟩)) ∧ HashOf w' w.heap.size (firstL, []) 0 ∧ Kept [] w w' := by
  obtain ⟨ty, fr, h0⟩ := hV.first
  have hsz : (Tryd.prog.info? 92).map (·.size) = some (wC firstL).size := Tryd.infoW8
  obtain ⟨Z, hZ⟩ : ∃ Z, Z = hashC (List.replicate 8 0) zero64 0 0 := ⟨_, rfl⟩
  have hz := Tryd.zeroHash
  rw [← hZ] at hz
  have hz8 : ¬ Z.size < 8 := by rw [hZ, hashC_size (ws := List.replicate 8 0) (blk := zero64) (f := 0) (len := 0) rfl rfl]; omega
  have HZ : Hid (Z = hashC (List.replicate 8 0) zero64 0 0) := hZ
  clear hZ
  go_enter Tryd.func36, Tryd.ntmps36
  go_wp2_with (refine wpList_load_row rfl 92 (.global 1) rfl 1 rfl ty #[.int .u32 1779033703, .int .u32 3144134277, .int .u32 1013904242, .int .u32 2773480762, .int .u32 1359893119, .int .u32 2600822924, .int .u32 528734635, .int .u32 1541459225] fr _ h0 Tryd.underlying92 rfl hsz ?_)
  go_ret
  refine ⟨rfl, ⟨zero64, ⟨?_, rfl, rfl, ?_⟩, by decide⟩, (Kept.refl [] w).alloc _⟩
  · refine (heap_alloc_new w _).trans ?_
    rw [HZ.out]
    rfl
  intro u hu
  rw [(List.mem_replicate.1 hu).2]
  decide

/-- The bytes of eight words. -/
def outStep (ws l : List Int) (n : Nat) : List Int := l.set n (at0 ws (n / 4) / 2 ^ (8 * (3 - n % 4)) % 256)
def outK (ws : List Int) (k : Nat) : List Int := (List.range k).foldl (outStep ws) zid
theorem outK_zero (ws : List Int) : outK ws 0 = zid := rfl
theorem outK_succ (ws : List Int) (k : Nat) : outK ws (k + 1) = outStep ws (outK ws k) k := by
  unfold outK; rw [List.range_succ, List.foldl_append]; rfl
theorem outK_len (ws : List Int) (k : Nat) : (outK ws k).length = 32 := by
  induction k with
  | zero => rfl
  | succ k ih => rw [outK_succ, outStep, List.length_set, ih]
theorem outK_octs (ws : List Int) (k : Nat) : Octs (outK ws k) := by
  induction k with
  | zero => exact fun u hu => by rw [(List.mem_replicate.1 hu).2]; decide
  | succ k ih => rw [outK_succ]; exact octs_set ih _ _ ⟨Int.emod_nonneg _ (by decide), by have := Int.emod_lt_of_pos (at0 ws (k / 4) / 2 ^ (8 * (3 - k % 4))) (show (0 : Int) < 256 by decide); omega⟩
def sumL (s : List Int × List Int) (len : Int) : List Int := outK (feedL s (padL s.2.length len)).1 32
theorem sumL_len (s : List Int × List Int) (len : Int) : (sumL s len).length = 32 := outK_len _ _
theorem sumL_octs (s : List Int × List Int) (len : Int) : Octs (sumL s len) := outK_octs _ _
theorem words_index (ws : List Int) (hw : ws.length = 8) (k : Nat) (h : k < 8) (W : World) : (Instr.index 92 (.agg (wC ws)) (.int .i64 k)).run Tryd.prog W = .ok (.int .u32 (at0 ws k)) W := by
  match ws, hw with
  | [a, b, c, d, e, f, g, h'], _ => exact eight_index ⟨a, b, c, d, e, f, g, h'⟩ k h W

theorem words_index' (ws : List Int) (hw : ws.length = 8) (wc : Array Value) (h : wc = wC ws) : ∀ k : Nat, k < 8 → ∀ W, (Instr.index 92 (.agg wc) (.int .i64 k)).run Tryd.prog W = .ok (.int .u32 (at0 ws k)) W := by
  subst h
  exact fun k hk W => words_index ws hw k hk W

set_option maxRecDepth 100000 in
set_option maxHeartbeats 4000000 in
theorem HSum_any (w : World) (b : Nat) (s : List Int × List Int) (len : Int) (hV : Vars w) (hH : HashOf w b s len) :
    Calls Tryd.prog 38 #[.pointer (some ⟨b, 0, none⟩)] w fun e w' => e = .returned (.agg (idC (sumL s len))) ∧ Kept [] w w' := by
  obtain ⟨rest, hA, hp⟩ := hH
  have hlt := hV.lt
  have hbl : b < w.heap.size := lt_of_block hA.cells
  obtain ⟨cs, hcs⟩ : ∃ cs, cs = hashC s.1 (s.2 ++ rest) s.2.length len := ⟨_, rfl⟩
  have hsz : (Tryd.prog.info? 95).map (·.size) = some cs.size := by rw [hcs, hashC_size hA.words hA.bytes]; exact Tryd.infoHash
  have h74 : cs.size = 74 := by rw [hcs, hashC_size hA.words hA.bytes]
  have hall : cs.all (·.oneCell') = true := by
    rw [hcs]
    simp [hashC, wC, Value.oneCell']
  have HCS : Hid (cs = hashC s.1 (s.2 ++ rest) s.2.length len) := hcs
  have HB : Hid ((w.alloc (.cells (idC zid) 24)).heap[b]? = some (.cells cs 95 (0, 0))) := by
    rw [hcs]; exact (Below.heap_alloc _ _ _ hbl).trans hA.cells
  have HA : Hid _ := hA
  have HV : Hid (Vars w) := hV
  clear hcs hA hV
  obtain ⟨Z, hZ⟩ : ∃ Z, Z = hashC (List.replicate 8 0) zero64 0 0 := ⟨_, rfl⟩
  have hz := Tryd.zeroHash
  rw [← hZ] at hz
  have hz74 : Z.size = cs.size := by rw [hZ, h74, hashC_size (ws := List.replicate 8 0) (blk := zero64) (f := 0) (len := 0) rfl rfl]
  clear hZ h74
  go_enter Tryd.func38, Tryd.ntmps38
  go_wp2_with (first
    | (refine wpList_load_row rfl 95 (.tmp 9) rfl b rfl 95 cs (0, 0) _ HB.out Tryd.underlying95 rfl hsz ?_)
    | (refine wpList_store_row (by rfl) 95 (.tmp 3) (.tmp 10) (by rfl) (w.heap.size + 1) cs (by rfl) (by rfl) 95 _ (heap_alloc2_new w _ _) hsz hz74 hall ?_
       have HW2 : Hid ((((w.alloc (.cells (idC zid) 24)).alloc (.cells Z 95)).setRow (w.heap.size + 1) cs).heap[w.heap.size + 1]? = some (.cells cs 95 (0, 0))) := setRow_heap _ _ _ _ _ _ (heap_alloc2_new w _ _)
       have HI2 : Hid ((((w.alloc (.cells (idC zid) 24)).alloc (.cells Z 95)).setRow (w.heap.size + 1) cs).heap[w.heap.size]? = some (.cells (idC zid) 24 (0, 0))) := (setRow_other _ _ _ _ (by simp)).trans ((Below.heap_alloc _ _ _ (by simp)).trans (heap_alloc_new w _))
       have HK2 : Hid (Kept [] w (((w.alloc (.cells (idC zid) 24)).alloc (.cells Z 95)).setRow (w.heap.size + 1) cs)) := kept_setRow (((Kept.refl [] w).alloc _).alloc _) (by simp) _
       have e0 : (((w.alloc (.cells (idC zid) 24)).alloc (.cells Z 95)).setRow (w.heap.size + 1) cs) = (((w.alloc (.cells #[.int .u8 0, .int .u8 0, .int .u8 0, .int .u8 0, .int .u8 0, .int .u8 0, .int .u8 0, .int .u8 0, .int .u8 0, .int .u8 0, .int .u8 0, .int .u8 0, .int .u8 0, .int .u8 0, .int .u8 0, .int .u8 0, .int .u8 0, .int .u8 0, .int .u8 0, .int .u8 0, .int .u8 0, .int .u8 0, .int .u8 0, .int .u8 0, .int .u8 0, .int .u8 0, .int .u8 0, .int .u8 0, .int .u8 0, .int .u8 0, .int .u8 0, .int .u8 0] 24)).alloc (.cells Z 95)).setRow (w.heap.size + 1) cs) := rfl
       rw [← e0]
       clear e0
       generalize ((w.alloc (.cells (idC zid) 24)).alloc (.cells Z 95)).setRow (w.heap.size + 1) cs = w2 at *
       rw [HCS.out] at HW2
       have HP := pad_any w2 (w.heap.size + 1) s len (HV.out.kept HK2.out (by simp) (by simp)) (by omega) (by omega) ⟨rest, ⟨HW2.out, HA.out.words, HA.out.bytes, HA.out.octs⟩, hp⟩)
    | (go_at_call 69; refine HP.mono ?_; rintro e w3 ⟨rfl, hH3, hk3⟩
       obtain ⟨rest3, hA3, hp3⟩ := hH3
       have HI3 : Hid (w3.heap[w.heap.size]? = some (.cells (idC zid) 24 (0, 0))) := hk3.heap HI2.out (by simp)
       have HK3 : Hid (Kept [] w w3) := HK2.out.trans hk3 (fun x hx => Or.inr (by simp at hx; omega))
       have HS : Hid (sumL s len = outK (feedL s (padL s.2.length len)).1 32) := rfl
       generalize feedL s (padL s.2.length len) = S at *
       have HA3 : Hid (∀ o, (w3.alloc o).rangeAt (w.heap.size + 1) 0 (S.1.map (Value.int .u32))) := fun o j v hv => by
         have hj : j < S.1.length := by simpa using (List.getElem?_eq_some_iff.1 hv).1
         have hw8 := hA3.words
         have hc := (hA3.kept ((Kept.refl [] w3).alloc o) (by simp)).word (j := j) (by omega)
         rw [Nat.zero_add, hc]
         simp only [List.getElem?_map, List.getElem?_eq_getElem hj, Option.map_some] at hv
         rw [← hv, at0, List.getElem?_eq_getElem hj]
         rfl
       have HW3 : Hid (S.1.length = 8) := hA3.words
       have hmid : (Tryd.prog.info? 92).map (·.size) = some (S.1.map (Value.int .u32)).length := by rw [List.length_map, hA3.words]; exact Tryd.infoW8
       obtain ⟨wc, hwc⟩ : ∃ wc, wc = wC S.1 := ⟨_, rfl⟩
       have HWC : Hid (wc = wC S.1) := hwc
       have HIX : Hid (∀ k : Nat, k < 8 → ∀ W, (Instr.index 92 (.agg wc) (.int .i64 k)).run Tryd.prog W = .ok (.int .u32 (at0 S.1 k)) W) := words_index' S.1 hA3.words wc hwc
       clear hA3 hp3 HP hk3 hwc)
    | (refine wpList_load_mid (by rfl) 92 (.tmp 12) (by rfl) (w.heap.size + 1) 0 (by rfl) (S.1.map (Value.int .u32)) _ (HA3.out _) Tryd.underlying92 rfl hmid ?_; rw [show (S.1.map (Value.int .u32)).toArray = wc from HWC.out.symm]))
  have hg3 : w.heap.size < w3.heap.size := lt_of_block HI3.out
  clear hmid HA3 hz hz74 hall hsz
  go_loopw [14] (fun c wr => ∃ i : Nat, i ≤ 8 ∧ c = .int .i64 i ∧ Hid (wr.heap[w.heap.size]? = some (.cells (idC zid) 24 (0, 0))) ∧ Hid (wr.heap[w3.heap.size]? = some (.cells (idC (outK S.1 (4 * i))) 24 (0, 0))) ∧ Kept [] w wr) (fun c _ => 8 - (intOf c).toNat)
  case atStart =>
    refine ⟨0, Nat.zero_le _, rfl, (Below.heap_alloc _ _ _ hg3).trans HI3.out, ?_, HK3.out.alloc _⟩
    rw [Nat.mul_zero, outK_zero]
    exact heap_alloc_new w3 _
  case round =>
    obtain ⟨i, hi, rfl, H0, H1, hkw⟩ := hrel
    by_cases hlt : i < 8
    · have hix := HIX.out i hlt
      generalize hy : at0 S.1 i = y at *
      have HY : Hid (at0 S.1 i = y) := hy
      clear hy
      have hd8 : decide ((i : Int) < 8) = true := decide_eq_true (by omega)
      clear HCS HB HA HV HW2 HI2 HK2 HI3 HK3 HW3 HWC HIX
      go_wp2
      go_loopw [18] (fun c wr => ∃ j : Nat, j ≤ 4 ∧ c = .int .i64 j ∧ Hid (wr.heap[w.heap.size]? = some (.cells (idC zid) 24 (0, 0))) ∧ Hid (wr.heap[w3.heap.size]? = some (.cells (idC (outK S.1 (4 * i + j))) 24 (0, 0))) ∧ Kept [] w wr) (fun c _ => 4 - (intOf c).toNat)
      case atStart => exact ⟨0, Nat.zero_le _, rfl, H0, H1, hkw⟩
      case round =>
        obtain ⟨j, hj, rfl, H0, H1, hkw⟩ := hrel
        have hb1 := lt_of_block H1.out
        by_cases hjlt : j < 4
        · have HN : Hid (outK S.1 (4 * i + (j + 1)) = (outK S.1 (4 * i + j)).set (4 * i + j) (at0 S.1 i / 2 ^ (8 * (3 - j)) % 256)) := by
            show _ = _
            rw [← Nat.add_assoc, outK_succ, outStep, show (4 * i + j) / 4 = i by omega, show (4 * i + j) % 4 = j by omega]
          have hlen := outK_len S.1 (4 * i + j)
          have c1 : wr.cell? ⟨w3.heap.size, 4 * i + j, none⟩ = some (.int .u8 ((outK S.1 (4 * i + j))[4 * i + j]?.getD 0)) := by
            rw [cell_of_row _ _ _ _ _ _ H1.out]
            exact idC_get (by omega)
          have f1 := frozen_of_row wr w3.heap.size (4 * i + j) _ _ H1.out
          have HP : Hid (∀ x, Hid ((wr.setCell ⟨w3.heap.size, 4 * i + j, none⟩ (.int .u8 x)).heap[w3.heap.size]? = some (.cells (idC ((outK S.1 (4 * i + j)).set (4 * i + j) x)) 24 (0, 0)))) := fun x => by
            show _ = _
            rw [heap_setCell_same _ _ _ _ _ _ H1.out]
            simp [idC, List.map_set]
          generalize (outK S.1 (4 * i + j))[4 * i + j]?.getD 0 = z at *
          have j1 : (4 : Int) * (i : Int) + (j : Int) = ((4 * i + j : Nat) : Int) := by omega
          have j2 : 4 * i + j < 32 := by omega
          have j3 : (8 : Int) * (3 - (j : Int)) = ((8 * (3 - j) : Nat) : Int) := by omega
          have j4 : ((8 * (3 - j) : Nat) : Int) ≤ 32 := by omega
          clear hix hlen
          rw [HY.out] at HN
          generalize hn : 4 * i + j = n at *
          generalize 8 * (3 - j) = m at *
          have hd4 : decide ((j : Int) < 4) = true := decide_eq_true (by omega)
          clear hn
          go_wp2
          go_roundw
          case rel =>
            refine ⟨j + 1, by omega, by go_num, (heap_setCell_other _ _ _ _ (Nat.ne_of_lt hg3)).trans H0.out, ?_, hkw.setCell (Or.inr (Nat.le_of_lt hg3)) _⟩
            rw [HN.out]
            exact HP.out _
          case measure => simp [intOf]; omega
        · obtain rfl : j = 4 := by omega
          rw [show ((4 : Nat) : Int) = 4 from rfl]
          go_wp2
          go_roundw
          case rel => exact ⟨i + 1, by omega, by go_num, H0, H1, hkw⟩
          case measure => simp [intOf]; omega
    · obtain rfl : i = 8 := by omega
      rw [show ((8 : Nat) : Int) = 8 from rfl]
      have hlen := outK_len S.1 32
      have H1' : Hid (wr.heap[w3.heap.size]? = some (.cells (idC (outK S.1 32)) 24 (0, 0))) := H1
      have HE : Hid (idC (sumL s len) = idC (outK S.1 32)) := by
        show _ = _
        rw [HS.out]
      obtain ⟨ic, hic⟩ : ∃ ic, ic = idC (outK S.1 32) := ⟨_, rfl⟩
      have HIC : Hid (ic = idC (outK S.1 32)) := hic
      have hszi : (Tryd.prog.info? 24).map (·.size) = some ic.size := by rw [hic, idC_size hlen]; exact Tryd.infoID
      have halli : ic.all (·.oneCell') = true := by rw [hic]; exact all_oneCell_toArray (map_oneCell _)
      have hosi : (idC zid).size = ic.size := by rw [hic, idC_size hlen]; rfl
      rw [← hic] at H1' HE
      clear hic H1 hlen
      go_wp2_with (first
        | (refine wpList_load_row rfl 24 (.tmp 4) rfl w3.heap.size rfl 24 ic (0, 0) _ H1'.out Tryd.underlying24 rfl hszi ?_)
        | (refine wpList_store_row rfl 24 (.tmp 2) (.tmp 34) rfl w.heap.size ic rfl rfl 24 _ H0.out hszi hosi halli ?_))
      refine bodyPost_ret (v := .agg ic) ?_ rfl ⟨by rw [HE.out], kept_setRow hkw (Nat.le_refl _) _⟩
      rw [results_cell rfl]
      have hld := run_loadVar_row (P := Tryd.prog) (wr.setRow w.heap.size ic) w.heap.size 24 24 ic (0, 0) _ (setRow_heap _ _ _ _ _ _ H0.out) Tryd.underlying24 rfl hszi
      exact hld
end Go.Proofs.YtlljiipmkjjhhaaDoor
