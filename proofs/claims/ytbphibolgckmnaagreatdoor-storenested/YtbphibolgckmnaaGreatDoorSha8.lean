/-
  WALKS: digest.New, (*digest.Hash).Sum.
  WALKS: digest.Sum, for every list of bytes; satchellaw2.right answers true.
-/
import Derived.Test.YtbphibolgckmnaaGreatDoorSha6
import Derived.Deep.MidRow
namespace Go.Proofs.YtbphibolgckmnaaGreatDoor
open Go.RowKit

theorem Vars.lt {w : World} (h : Vars w) : 0 < w.heap.size ∧ 1 < w.heap.size := by
  obtain ⟨_, _, h0⟩ := h.first
  obtain ⟨_, _, h1⟩ := h.turn
  exact ⟨lt_of_block h0, lt_of_block h1⟩

theorem Tryz.infoW8 : (Tryz.prog.info? 120).map (·.size) = some 8 := by kernel_rfl
theorem Tryz.infoHash : (Tryz.prog.info? 123).map (·.size) = some 74 := by kernel_rfl

theorem Tryz.zeroHash (W : World) : (zeroValue 123).run Tryz.prog W = .ok (.agg (hashC (List.replicate 8 0) zero64 0 0)) W := by kernel_rfl
def zid : List Int := List.replicate 32 0

set_option maxRecDepth 100000 in
set_option maxHeartbeats 4000000 in
theorem HNew_any (w : World) (hV : Vars w) :
    Calls Tryz.prog 44 #[] w fun e w' => e = .returned (.pointer (some ⟨w.heap.size, 0, none⟩)) ∧ HashOf w' w.heap.size (firstL, []) 0 ∧ Kept [] w w' := by
  obtain ⟨ty, fr, h0⟩ := hV.first
  have hsz : (Tryz.prog.info? 120).map (·.size) = some (wC firstL).size := Tryz.infoW8
  obtain ⟨Z, hZ⟩ : ∃ Z, Z = hashC (List.replicate 8 0) zero64 0 0 := ⟨_, rfl⟩
  have hz := Tryz.zeroHash
  rw [← hZ] at hz
  have hz8 : ¬ Z.size < 8 := by rw [hZ, hashC_size (ws := List.replicate 8 0) (blk := zero64) (f := 0) (len := 0) rfl rfl]; omega
  have HZ : Hid (Z = hashC (List.replicate 8 0) zero64 0 0) := hZ
  clear hZ
  go_enter Tryz.func44, Tryz.ntmps44
  go_wp2_with (refine wpList_load_row rfl 120 (.global 0) rfl 0 rfl ty #[.int .u32 1779033703, .int .u32 3144134277, .int .u32 1013904242, .int .u32 2773480762, .int .u32 1359893119, .int .u32 2600822924, .int .u32 528734635, .int .u32 1541459225] fr _ h0 Tryz.underlying120 rfl hsz ?_)
  go_ret
  refine ⟨rfl, ⟨zero64, ⟨?_, rfl, rfl, ?_⟩, by decide⟩, (Kept.refl [] w).alloc _⟩
  · refine (heap_alloc_new w _).trans ?_
    rw [HZ.out]
    rfl
  intro u hu
  rw [(List.mem_replicate.1 hu).2]
  decide

/-- The bytes of eight words. -/
def outStep (ws l : List Int) (n : Nat) : List Int := l.set n (at0 ws (n / 4) / 2 ^ (8 * (3 - n % 4)) % 256)
def outK (ws : List Int) (k : Nat) : List Int := (List.range k).foldl (outStep ws) zid
theorem outK_zero (ws : List Int) : outK ws 0 = zid := rfl
theorem outK_succ (ws : List Int) (k : Nat) : outK ws (k + 1) = outStep ws (outK ws k) k := by
  unfold outK; rw [List.range_succ, List.foldl_append]; rfl
theorem outK_len (ws : List Int) (k : Nat) : (outK ws k).length = 32 := by
  induction k with
  | zero => rfl
  | succ k ih => rw [outK_succ, outStep, List.length_set, ih]
theorem outK_octs (ws : List Int) (k : Nat) : Octs (outK ws k) := by
  induction k with
  | zero => exact fun u hu => by rw [(List.mem_replicate.1 hu).2]; decide
  | succ k ih => rw [outK_succ]; exact octs_set ih _ _ ⟨Int.emod_nonneg _ (by decide), by have := Int.emod_lt_of_pos (at0 ws (k / 4) / 2 ^ (8 * (3 - k % 4))) (show (0 : Int) < 256 by decide); omega⟩
def sumL (s : List Int × List Int) (len : Int) : List Int := outK (feedL s (padL s.2.length len)).1 32
theorem sumL_len (s : List Int × List Int) (len : Int) : (sumL s len).length = 32 := outK_len _ _
theorem sumL_octs (s : List Int × List Int) (len : Int) : Octs (sumL s len) := outK_octs _ _
theorem words_index (ws : List Int) (hw : ws.length = 8) (k : Nat) (h : k < 8) (W : World) : (Instr.index 120 (.agg (wC ws)) (.int .i64 k)).run Tryz.prog W = .ok (.int .u32 (at0 ws k)) W := by
  match ws, hw with
  | [a, b, c, d, e, f, g, h'], _ => exact eight_index ⟨a, b, c, d, e, f, g, h'⟩ k h W

theorem words_index' (ws : List Int) (hw : ws.length = 8) (wc : Array Value) (h : wc = wC ws) : ∀ k : Nat, k < 8 → ∀ W, (Instr.index 120 (.agg wc) (.int .i64 k)).run Tryz.prog W = .ok (.int .u32 (at0 ws k)) W := by
  subst h
  exact fun k hk W => words_index ws hw k hk W

set_option maxRecDepth 100000 in
set_option maxHeartbeats 4000000 in
theorem HSum_any (w : World) (b : Nat) (s : List Int × List Int) (len : Int) (hV : Vars w) (hH : HashOf w b s len) :
    Calls Tryz.prog 46 #[.pointer (some ⟨b, 0, none⟩)] w fun e w' => e = .returned (.agg (idC (sumL s len))) ∧ Kept [] w w' := by
  obtain ⟨rest, hA, hp⟩ := hH
  have hlt := hV.lt
  have hbl : b < w.heap.size := lt_of_block hA.cells
  obtain ⟨cs, hcs⟩ : ∃ cs, cs = hashC s.1 (s.2 ++ rest) s.2.length len := ⟨_, rfl⟩
  have hsz : (Tryz.prog.info? 123).map (·.size) = some cs.size := by rw [hcs, hashC_size hA.words hA.bytes]; exact Tryz.infoHash
  have h74 : cs.size = 74 := by rw [hcs, hashC_size hA.words hA.bytes]
  have hall : cs.all (·.oneCell') = true := by
    rw [hcs]
    simp [hashC, wC, Value.oneCell']
  have HCS : Hid (cs = hashC s.1 (s.2 ++ rest) s.2.length len) := hcs
  have HB : Hid ((w.alloc (.cells (idC zid) 29)).heap[b]? = some (.cells cs 123 (0, 0))) := by
    rw [hcs]; exact (Below.heap_alloc _ _ _ hbl).trans hA.cells
  have HA : Hid _ := hA
  have HV : Hid (Vars w) := hV
  clear hcs hA hV
  obtain ⟨Z, hZ⟩ : ∃ Z, Z = hashC (List.replicate 8 0) zero64 0 0 := ⟨_, rfl⟩
  have hz := Tryz.zeroHash
  rw [← hZ] at hz
  have hz74 : Z.size = cs.size := by rw [hZ, h74, hashC_size (ws := List.replicate 8 0) (blk := zero64) (f := 0) (len := 0) rfl rfl]
  clear hZ h74
  go_enter Tryz.func46, Tryz.ntmps46
  go_wp2_with (first
    | (refine wpList_load_row rfl 123 (.tmp 9) rfl b rfl 123 cs (0, 0) _ HB.out Tryz.underlying123 rfl hsz ?_)
    | (refine wpList_store_row (by rfl) 123 (.tmp 3) (.tmp 10) (by rfl) (w.heap.size + 1) cs (by rfl) (by rfl) 123 _ (heap_alloc2_new w _ _) hsz hz74 hall ?_
       have HW2 : Hid ((((w.alloc (.cells (idC zid) 29)).alloc (.cells Z 123)).setRow (w.heap.size + 1) cs).heap[w.heap.size + 1]? = some (.cells cs 123 (0, 0))) := setRow_heap _ _ _ _ _ _ (heap_alloc2_new w _ _)
       have HI2 : Hid ((((w.alloc (.cells (idC zid) 29)).alloc (.cells Z 123)).setRow (w.heap.size + 1) cs).heap[w.heap.size]? = some (.cells (idC zid) 29 (0, 0))) := (setRow_other _ _ _ _ (by simp)).trans ((Below.heap_alloc _ _ _ (by simp)).trans (heap_alloc_new w _))
       have HK2 : Hid (Kept [] w (((w.alloc (.cells (idC zid) 29)).alloc (.cells Z 123)).setRow (w.heap.size + 1) cs)) := kept_setRow (((Kept.refl [] w).alloc _).alloc _) (by simp) _
       have e0 : (((w.alloc (.cells (idC zid) 29)).alloc (.cells Z 123)).setRow (w.heap.size + 1) cs) = (((w.alloc (.cells #[.int .u8 0, .int .u8 0, .int .u8 0, .int .u8 0, .int .u8 0, .int .u8 0, .int .u8 0, .int .u8 0, .int .u8 0, .int .u8 0, .int .u8 0, .int .u8 0, .int .u8 0, .int .u8 0, .int .u8 0, .int .u8 0, .int .u8 0, .int .u8 0, .int .u8 0, .int .u8 0, .int .u8 0, .int .u8 0, .int .u8 0, .int .u8 0, .int .u8 0, .int .u8 0, .int .u8 0, .int .u8 0, .int .u8 0, .int .u8 0, .int .u8 0, .int .u8 0] 29)).alloc (.cells Z 123)).setRow (w.heap.size + 1) cs) := rfl
       rw [← e0]
       clear e0
       generalize ((w.alloc (.cells (idC zid) 29)).alloc (.cells Z 123)).setRow (w.heap.size + 1) cs = w2 at *
       rw [HCS.out] at HW2
       have HP := pad_any w2 (w.heap.size + 1) s len (HV.out.kept HK2.out (by simp) (by simp)) (by omega) (by omega) ⟨rest, ⟨HW2.out, HA.out.words, HA.out.bytes, HA.out.octs⟩, hp⟩)
    | (go_at_call 63; refine HP.mono ?_; rintro e w3 ⟨rfl, hH3, hk3⟩
       obtain ⟨rest3, hA3, hp3⟩ := hH3
       have HI3 : Hid (w3.heap[w.heap.size]? = some (.cells (idC zid) 29 (0, 0))) := hk3.heap HI2.out (by simp)
       have HK3 : Hid (Kept [] w w3) := HK2.out.trans hk3 (fun x hx => Or.inr (by simp at hx; omega))
       have HS : Hid (sumL s len = outK (feedL s (padL s.2.length len)).1 32) := rfl
       generalize feedL s (padL s.2.length len) = S at *
       have HA3 : Hid (∀ o, (w3.alloc o).rangeAt (w.heap.size + 1) 0 (S.1.map (Value.int .u32))) := fun o j v hv => by
         have hj : j < S.1.length := by simpa using (List.getElem?_eq_some_iff.1 hv).1
         have hw8 := hA3.words
         have hc := (hA3.kept ((Kept.refl [] w3).alloc o) (by simp)).word (j := j) (by omega)
         rw [Nat.zero_add, hc]
         simp only [List.getElem?_map, List.getElem?_eq_getElem hj, Option.map_some] at hv
         rw [← hv, at0, List.getElem?_eq_getElem hj]
         rfl
       have HW3 : Hid (S.1.length = 8) := hA3.words
       have hmid : (Tryz.prog.info? 120).map (·.size) = some (S.1.map (Value.int .u32)).length := by rw [List.length_map, hA3.words]; exact Tryz.infoW8
       obtain ⟨wc, hwc⟩ : ∃ wc, wc = wC S.1 := ⟨_, rfl⟩
       have HWC : Hid (wc = wC S.1) := hwc
       have HIX : Hid (∀ k : Nat, k < 8 → ∀ W, (Instr.index 120 (.agg wc) (.int .i64 k)).run Tryz.prog W = .ok (.int .u32 (at0 S.1 k)) W) := words_index' S.1 hA3.words wc hwc
       clear hA3 hp3 HP hk3 hwc)
    | (refine wpList_load_mid (by rfl) 120 (.tmp 12) (by rfl) (w.heap.size + 1) 0 (by rfl) (S.1.map (Value.int .u32)) _ (HA3.out _) Tryz.underlying120 rfl hmid ?_; rw [show (S.1.map (Value.int .u32)).toArray = wc from HWC.out.symm]))
  have hg3 : w.heap.size < w3.heap.size := lt_of_block HI3.out
  clear hmid HA3 hz hz74 hall hsz
  go_loopw [14] (fun c wr => ∃ i : Nat, i ≤ 8 ∧ c = .int .i64 i ∧ Hid (wr.heap[w.heap.size]? = some (.cells (idC zid) 29 (0, 0))) ∧ Hid (wr.heap[w3.heap.size]? = some (.cells (idC (outK S.1 (4 * i))) 29 (0, 0))) ∧ Kept [] w wr) (fun c _ => 8 - (intOf c).toNat)
  case atStart =>
    refine ⟨0, Nat.zero_le _, rfl, (Below.heap_alloc _ _ _ hg3).trans HI3.out, ?_, HK3.out.alloc _⟩
    rw [Nat.mul_zero, outK_zero]
    exact heap_alloc_new w3 _
  case round =>
    obtain ⟨i, hi, rfl, H0, H1, hkw⟩ := hrel
    by_cases hlt : i < 8
    · have hix := HIX.out i hlt
      generalize hy : at0 S.1 i = y at *
      have HY : Hid (at0 S.1 i = y) := hy
      clear hy
      have hd8 : decide ((i : Int) < 8) = true := decide_eq_true (by omega)
      clear HCS HB HA HV HW2 HI2 HK2 HI3 HK3 HW3 HWC HIX
      go_wp2
      go_loopw [18] (fun c wr => ∃ j : Nat, j ≤ 4 ∧ c = .int .i64 j ∧ Hid (wr.heap[w.heap.size]? = some (.cells (idC zid) 29 (0, 0))) ∧ Hid (wr.heap[w3.heap.size]? = some (.cells (idC (outK S.1 (4 * i + j))) 29 (0, 0))) ∧ Kept [] w wr) (fun c _ => 4 - (intOf c).toNat)
      case atStart => exact ⟨0, Nat.zero_le _, rfl, H0, H1, hkw⟩
      case round =>
        obtain ⟨j, hj, rfl, H0, H1, hkw⟩ := hrel
        have hb1 := lt_of_block H1.out
        by_cases hjlt : j < 4
        · have HN : Hid (outK S.1 (4 * i + (j + 1)) = (outK S.1 (4 * i + j)).set (4 * i + j) (at0 S.1 i / 2 ^ (8 * (3 - j)) % 256)) := by
            show _ = _
            rw [← Nat.add_assoc, outK_succ, outStep, show (4 * i + j) / 4 = i by omega, show (4 * i + j) % 4 = j by omega]
          have hlen := outK_len S.1 (4 * i + j)
          have c1 : wr.cell? ⟨w3.heap.size, 4 * i + j, none⟩ = some (.int .u8 ((outK S.1 (4 * i + j))[4 * i + j]?.getD 0)) := by
            rw [cell_of_row _ _ _ _ _ _ H1.out]
            exact idC_get (by omega)
          have f1 := frozen_of_row wr w3.heap.size (4 * i + j) _ _ H1.out
          have HP : Hid (∀ x, Hid ((wr.setCell ⟨w3.heap.size, 4 * i + j, none⟩ (.int .u8 x)).heap[w3.heap.size]? = some (.cells (idC ((outK S.1 (4 * i + j)).set (4 * i + j) x)) 29 (0, 0)))) := fun x => by
            show _ = _
            rw [heap_setCell_same _ _ _ _ _ _ H1.out]
            simp [idC, List.map_set]
          generalize (outK S.1 (4 * i + j))[4 * i + j]?.getD 0 = z at *
          have j1 : (4 : Int) * (i : Int) + (j : Int) = ((4 * i + j : Nat) : Int) := by omega
          have j2 : 4 * i + j < 32 := by omega
          have j3 : (8 : Int) * (3 - (j : Int)) = ((8 * (3 - j) : Nat) : Int) := by omega
          have j4 : ((8 * (3 - j) : Nat) : Int) ≤ 32 := by omega
          clear hix hlen
          rw [HY.out] at HN
          generalize hn : 4 * i + j = n at *
          generalize 8 * (3 - j) = m at *
          have hd4 : decide ((j : Int) < 4) = true := decide_eq_true (by omega)
          clear hn
          go_wp2
          go_roundw
          case rel =>
            refine ⟨j + 1, by omega, by go_num, (heap_setCell_other _ _ _ _ (Nat.ne_of_lt hg3)).trans H0.out, ?_, hkw.setCell (Or.inr (Nat.le_of_lt hg3)) _⟩
            rw [HN.out]
            exact HP.out _
          case measure => simp [intOf]; omega
        · obtain rfl : j = 4 := by omega
          rw [show ((4 : Nat) : Int) = 4 from rfl]
          go_wp2
          go_roundw
          case rel => exact ⟨i + 1, by omega, by go_num, H0, H1, hkw⟩
          case measure => simp [intOf]; omega
    · obtain rfl : i = 8 := by omega
      rw [show ((8 : Nat) : Int) = 8 from rfl]
      have hlen := outK_len S.1 32
      have H1' : Hid (wr.heap[w3.heap.size]? = some (.cells (idC (outK S.1 32)) 29 (0, 0))) := H1
      have HE : Hid (idC (sumL s len) = idC (outK S.1 32)) := by
        show _ = _
        rw [HS.out]
      obtain ⟨ic, hic⟩ : ∃ ic, ic = idC (outK S.1 32) := ⟨_, rfl⟩
      have HIC : Hid (ic = idC (outK S.1 32)) := hic
      have hszi : (Tryz.prog.info? 29).map (·.size) = some ic.size := by rw [hic, idC_size hlen]; exact Tryz.infoID
      have halli : ic.all (·.oneCell') = true := by rw [hic]; exact all_oneCell_toArray (map_oneCell _)
      have hosi : (idC zid).size = ic.size := by rw [hic, idC_size hlen]; rfl
      rw [← hic] at H1' HE
      clear hic H1 hlen
      go_wp2_with (first
        | (refine wpList_load_row rfl 29 (.tmp 4) rfl w3.heap.size rfl 29 ic (0, 0) _ H1'.out Tryz.underlying29 rfl hszi ?_)
        | (refine wpList_store_row rfl 29 (.tmp 2) (.tmp 34) rfl w.heap.size ic rfl rfl 29 _ H0.out hszi hosi halli ?_))
      refine bodyPost_ret (v := .agg ic) ?_ rfl ⟨by rw [HE.out], kept_setRow hkw (Nat.le_refl _) _⟩
      rw [results_cell rfl]
      have hld := run_loadVar_row (P := Tryz.prog) (wr.setRow w.heap.size ic) w.heap.size 29 29 ic (0, 0) _ (setRow_heap _ _ _ _ _ _ H0.out) Tryz.underlying29 rfl hszi
      exact hld
end Go.Proofs.YtbphibolgckmnaaGreatDoor

namespace Go.Proofs.YtbphibolgckmnaaGreatDoor
open Go.RowKit

/-- The digest of bytes. -/
def digL (xs : List Int) : List Int := sumL (feedL (firstL, []) xs) xs.length
theorem digL_len (xs : List Int) : (digL xs).length = 32 := sumL_len _ _
theorem digL_octs (xs : List Int) : Octs (digL xs) := sumL_octs _ _
/-- A Hash that these bytes were written to. -/
def HashX (w : World) (b : Nat) (xs : List Int) : Prop := HashOf w b (feedL (firstL, []) xs) xs.length ∧ b ≠ 0 ∧ b ≠ 1
theorem HashX.kept {S : List Nat} {w w' : World} {b : Nat} {xs : List Int} (h : HashX w b xs) (k : Kept S w w') (hn : b ∉ S) : HashX w' b xs := ⟨h.1.kept k hn, h.2⟩
theorem HashX.lt {w : World} {b : Nat} {xs : List Int} (h : HashX w b xs) : b < w.heap.size := by
  obtain ⟨⟨r, hA, _⟩, _⟩ := h
  exact lt_of_block hA.cells

theorem NewX_any (w : World) (hV : Vars w) :
    Calls Tryz.prog 44 #[] w fun e w' => e = .returned (.pointer (some ⟨w.heap.size, 0, none⟩)) ∧ HashX w' w.heap.size [] ∧ Kept [] w w' :=
  (HNew_any w hV).mono fun _ _ h => ⟨h.1, ⟨h.2.1, by have := hV.lt; omega, by have := hV.lt; omega⟩, h.2.2⟩
theorem WriteX_any (w : World) (b : Nat) (ys : List Int) (v : Value) (xs : List Int) (hV : Vars w) (hH : HashX w b ys) (hx : BytesAt w v xs) (ho : Octs xs) (hd : ∀ q, blkOf v = some q → xs ≠ [] → q ≠ b) (hn : xs.length ≤ 140737488355328) (hy : ys.length ≤ 9000000000000000000) :
    Calls Tryz.prog 45 #[.pointer (some ⟨b, 0, none⟩), v] w fun e w' => e = .returned (.tuple #[]) ∧ HashX w' b (ys ++ xs) ∧ Kept [b] w w' := by
  refine (Write_any w b _ _ v xs hV hH.2.1 hH.2.2 hH.1 hx ho hd hn).mono fun _ _ h => ⟨h.1, ⟨?_, hH.2⟩, h.2.2⟩
  have e : IntKind.u64.wrap ((ys.length : Int) + xs.length) = ((ys ++ xs).length : Int) := by
    rw [IntKind.wrap_u64, List.length_append]; omega
  have := h.2.1
  rw [e, ← feed_append] at this
  exact this
theorem SumX_any (w : World) (b : Nat) (xs : List Int) (hV : Vars w) (hH : HashX w b xs) :
    Calls Tryz.prog 46 #[.pointer (some ⟨b, 0, none⟩)] w fun e w' => e = .returned (.agg (idC (digL xs))) ∧ Kept [] w w' := HSum_any w b _ _ hV hH.1

theorem BytesAt.lt {w : World} {v : Value} {xs : List Int} (hx : BytesAt w v xs) : ∀ q, blkOf v = some q → xs ≠ [] → q < w.heap.size := by
  intro q hq hne
  obtain ⟨ao, cap, rfl, _, _, hc⟩ := hx
  obtain ⟨b, off, rfl, hh⟩ := hc hne
  cases hq
  cases xs with
  | nil => exact absurd rfl hne
  | cons x r => exact World.block_lt_of_cell? w _ (hh 0 x rfl)

set_option maxRecDepth 100000 in
set_option maxHeartbeats 4000000 in
theorem Sum_any (w : World) (v : Value) (xs : List Int) (hV : Vars w) (hx : BytesAt w v xs) (ho : Octs xs) (hn : xs.length ≤ 140737488355328) :
    Calls Tryz.prog 28 #[v] w fun e w' => e = .returned (.agg (idC (digL xs))) ∧ Kept [] w w' := by
  have hvl := hx.lt
  obtain ⟨ic, hic⟩ : ∃ ic, ic = idC (digL xs) := ⟨_, rfl⟩
  have hszi : (Tryz.prog.info? 29).map (·.size) = some ic.size := by rw [hic, idC_size (digL_len xs)]; exact Tryz.infoID
  have halli : ic.all (·.oneCell') = true := by rw [hic]; exact all_oneCell_toArray (map_oneCell _)
  have hosi : (idC zid).size = ic.size := by rw [hic, idC_size (digL_len xs)]; rfl
  have HV : Hid (∀ W, Kept [] w W → Vars W) := fun W hk => hV.kept hk (by simp) (by simp)
  have HW : Hid (∀ W, Kept [] w W → ∀ b, w.heap.size < b → HashX W b [] → Calls Tryz.prog 45 #[.pointer (some ⟨b, 0, none⟩), v] W fun e w' => e = .returned (.tuple #[]) ∧ HashX w' b xs ∧ Kept [b] W w') :=
    fun W hk b hb hH => WriteX_any W b [] v xs (HV.out W hk) hH (hx.kept' hk (by simp)) ho (fun q hq hne => by have := hvl q hq hne; omega) hn (by simp)
  have HS : Hid (∀ W, Vars W → ∀ b, HashX W b xs → Calls Tryz.prog 46 #[.pointer (some ⟨b, 0, none⟩)] W fun e w' => e = .returned (.agg ic) ∧ Kept [] W w') := by
    rw [hic]; exact fun W h b hH => SumX_any W b xs h hH
  have HI : Hid (ic = idC (digL xs)) := hic
  have HN := NewX_any (w.alloc (.cells (idC zid) 29)) (HV.out _ ((Kept.refl [] w).alloc _))
  rw [show (w.alloc (.cells (idC zid) 29)).heap.size = w.heap.size + 1 by simp] at HN
  clear hvl hV hx ho hn hic
  go_enter Tryz.func28, Tryz.ntmps28
  go_wp2_with (first
    | (go_at_call 44; refine HN.mono ?_; rintro e w1 ⟨rfl, hH1, hk1⟩
       have HI1 : Hid (w1.heap[w.heap.size]? = some (.cells (idC zid) 29 (0, 0))) := hk1.heap (heap_alloc_new w _) (by simp)
       have HK1 : Hid (Kept [] w w1) := ((Kept.refl [] w).alloc _).then hk1
       have HW1 := HW.out w1 HK1.out (w.heap.size + 1) (by omega) hH1
       clear hH1 hk1)
    | (go_at_call 45; refine HW1.mono ?_; rintro e w2 ⟨rfl, hH2, hk2⟩
       have HI2 : Hid (w2.heap[w.heap.size]? = some (.cells (idC zid) 29 (0, 0))) := hk2.heap HI1.out (by simp)
       have HK2 : Hid (Kept [] w w2) := HK1.out.trans hk2 (fun x hx => Or.inr (by simp at hx; omega))
       have HS2 := HS.out w2 (HV.out w2 HK2.out) (w.heap.size + 1) hH2
       clear hH2 hk2)
    | (go_at_call 46; refine HS2.mono ?_; rintro e w3 ⟨rfl, hk3⟩
       have HI3 : Hid (w3.heap[w.heap.size]? = some (.cells (idC zid) 29 (0, 0))) := hk3.heap HI2.out (by simp)
       have HK3 : Hid (Kept [] w w3) := HK2.out.then hk3
       clear hk3)
    | (refine wpList_store_row rfl 29 (.tmp 2) (.tmp 9) rfl w.heap.size ic rfl rfl 29 _ HI3.out hszi hosi halli ?_))
  refine bodyPost_ret (v := .agg ic) ?_ rfl ⟨by rw [HI.out], kept_setRow HK3.out (Nat.le_refl _) _⟩
  rw [results_cell rfl]
  have hld := run_loadVar_row (P := Tryz.prog) (w3.setRow w.heap.size ic) w.heap.size 29 29 ic (0, 0) _ (setRow_heap _ _ _ _ _ _ HI3.out) Tryz.underlying29 rfl hszi
  exact hld
end Go.Proofs.YtbphibolgckmnaaGreatDoor
