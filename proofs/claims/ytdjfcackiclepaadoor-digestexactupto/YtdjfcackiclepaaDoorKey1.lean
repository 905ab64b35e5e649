/-
  WALKS: digest.behind, for every key, mask and list of bytes.
-/
import Derived.Test.YtdjfcackiclepaaDoorDCp
namespace Go.Proofs.YtdjfcackiclepaaDoor
open Go.RowKit

/-- The masked key. -/
def maskL (kb : List Int) (m : Int) : List Int := kb.map fun z => bits .xor .u8 z m
theorem maskL_len (kb : List Int) (m : Int) : (maskL kb m).length = kb.length := by simp [maskL]
theorem u8_bits (op : BinOp) (x y : Int) : 0 ≤ bits op .u8 x y ∧ bits op .u8 x y ≤ 255 := u8_octs _
theorem maskL_octs (kb : List Int) (m : Int) : Octs (maskL kb m) := by
  intro u hu
  obtain ⟨z, _, rfl⟩ := List.mem_map.1 hu
  exact u8_bits _ _ _

theorem Tryd.infoB64 : (Tryd.prog.info? 41).map (·.size) = some 64 := by kernel_rfl
theorem slice_all64 (b : Nat) (W : World) : (Instr.sliceAt 41 (.pointer (some ⟨b, 0, none⟩)) none none none).run Tryd.prog W = .ok (.slice (some ⟨b, 0, none⟩) 64 64) W := by
  rw [run_sliceAt_array_all W _ _ Tryd.arr64, Tryd.one64 W, Tryd.len64]
  rfl
theorem row_bytes_tag {w : World} {q : Nat} {ty : TypeId} {fr : Nat × Nat} {ys : List Int} (h : w.heap[q]? = some (.cells (idC ys) ty fr)) : BytesAt w (.slice (some ⟨q, 0, none⟩) ys.length ys.length) ys := by
  refine ⟨_, _, rfl, Nat.le_refl _, fun e => (by simp at e), fun _ => ⟨q, 0, rfl, fun i u hu => ?_⟩⟩
  rw [cell_of_row _ _ _ _ _ _ h, Nat.zero_add, ← Array.getElem?_toList]
  simp [idC, hu]
theorem apart_ne {b g n c : Nat} (h : g ≠ b) : ∀ q, blkOf (.slice (some ⟨g, 0, none⟩) n c) = some q → q ≠ b := by
  intro q hq
  cases hq
  exact h
theorem tag_put {w : World} {g : Nat} {ty : TypeId} {l : List Int} (h : w.heap[g]? = some (.cells (idC l) ty (0, 0))) (k : Nat) (x : Int) :
    (w.setCell ⟨g, k, none⟩ (.int .u8 x)).heap[g]? = some (.cells (idC (l.set k x)) ty (0, 0)) := by
  rw [heap_setCell_same _ _ _ _ _ _ h]
  simp [idC, List.map_set]

set_option maxRecDepth 100000 in
set_option maxHeartbeats 4000000 in
theorem behind_any (w : World) (hV : Vars w) (kb : List Int) (hl : kb.length = 64) (m : Int) (v : Value) (xs : List Int) (hx : BytesAt w v xs) (ho : Octs xs) (hn : xs.length ≤ 140737488355328) :
    Calls Tryd.prog 22 #[.agg (idC kb), .int .u8 m, v] w fun e w' => e = .returned (.agg (idC (digL (maskL kb m ++ xs)))) ∧ Kept [] w w' := by
  have hvl := hx.lt
  have HV : Hid (∀ W, Kept [] w W → Vars W) := fun W hk => hV.kept hk (by simp) (by simp)
  have HX : Hid (∀ W, Kept [] w W → BytesAt W v xs) := fun W hk => hx.kept' hk (by simp)
  obtain ⟨ic, hic⟩ : ∃ ic, ic = idC (digL (maskL kb m ++ xs)) := ⟨_, rfl⟩
  have hszi : (Tryd.prog.info? 29).map (·.size) = some ic.size := by rw [hic, idC_size (digL_len _)]; exact Tryd.infoID
  have halli : ic.all (·.oneCell') = true := by rw [hic]; exact all_oneCell_toArray (map_oneCell _)
  have hosi : (idC zid).size = ic.size := by rw [hic, idC_size (digL_len _)]; rfl
  have HI : Hid (ic = idC (digL (maskL kb m ++ xs))) := hic
  have HML := maskL_len kb m
  obtain ⟨ms, hms⟩ : ∃ ms, ms = maskL kb m := ⟨_, rfl⟩
  have HMS : Hid (ms = maskL kb m) := hms
  have hmg : ∀ k, k < 64 → ms[k]?.getD 0 = bits .xor .u8 (kb[k]?.getD 0) m := fun k hk => by
    rw [hms, maskL, List.getElem?_map, List.getElem?_eq_getElem (show k < kb.length by omega)]
    rfl
  have hml : ms.length = 64 := by rw [hms, HML, hl]
  have hmo : Octs ms := by rw [hms]; exact maskL_octs kb m
  clear hms HML hic hV hx
  obtain ⟨kc, hkc⟩ : ∃ kc, kc = idC kb := ⟨_, rfl⟩
  have HKC : Hid (kc = idC kb) := hkc
  rw [← hkc]
  clear hkc
  have HL : Hid (kb.length = 64) := hl
  have HMG : Hid _ := hmg
  have HML : Hid (ms.length = 64) := hml
  clear hl hmg hml
  have hall64 := slice_all64
  go_enter Tryd.func22, Tryd.ntmps22
  go_wp2
  go_loopw [9] (fun c wr => ∃ k : Nat, k ≤ 64 ∧ c = .int .i64 k ∧ Hid (wr.heap[w.heap.size]? = some (.cells (idC (ms.take k ++ kb.drop k)) 41 (0, 0))) ∧ Hid (wr.heap[w.heap.size + 1]? = some (.cells (idC zid) 29 (0, 0))) ∧ Kept [] w wr) (fun c _ => 64 - (intOf c).toNat)
  case atStart =>
    refine ⟨0, Nat.zero_le _, rfl, ?_, heap_alloc2_new w _ _, ((Kept.refl [] w).alloc _).alloc _⟩
    rw [List.take_zero, List.drop_zero, List.nil_append, ← HKC.out]
    exact (Below.heap_alloc _ _ _ (by simp)).trans (heap_alloc_new w _)
  case round =>
    obtain ⟨k, hk, rfl, H0, H1, hkw⟩ := hrel
    have hb0 := lt_of_block H0.out
    by_cases hlt : k < 64
    · have hlen : (ms.take k ++ kb.drop k).length = 64 := by
        have := HL.out
        have := HML.out
        simp; omega
      have hg : (ms.take k ++ kb.drop k)[k]?.getD 0 = kb[k]?.getD 0 := by
        have := HML.out
        rw [List.getElem?_append_right (by simp; omega)]
        simp
        congr 2
        omega
      have c1 : wr.cell? ⟨w.heap.size, k, none⟩ = some (.int .u8 (kb[k]?.getD 0)) := by
        rw [cell_of_row _ _ _ _ _ _ H0.out, idC_get (by omega), hg]
      have f1 := frozen_of_row wr w.heap.size k _ _ H0.out
      have HP : Hid (∀ x, Hid ((wr.setCell ⟨w.heap.size, k, none⟩ (.int .u8 x)).heap[w.heap.size]? = some (.cells (idC ((ms.take k ++ kb.drop k).set k x)) 41 (0, 0)))) := fun x => tag_put H0.out k x
      have HN : Hid ((ms.take k ++ kb.drop k).set k (bits .xor .u8 (kb[k]?.getD 0) m) = ms.take (k + 1) ++ kb.drop (k + 1)) := by
        have := mid_put ms kb k (by rw [HML.out]; exact hlt) (by rw [HML.out, HL.out])
        rw [HMG.out k hlt] at this
        exact this
      clear hlen hg
      generalize kb[k]?.getD 0 = z at *
      go_wp2
      go_roundw
      case rel =>
        refine ⟨k + 1, by omega, by go_num, ?_, (heap_setCell_other _ _ _ _ (by simp)).trans H1.out, hkw.setCell (Or.inr (Nat.le_refl _)) _⟩
        rw [← HN.out]
        exact HP.out _
      case measure => simp [intOf]; omega
    · obtain rfl : k = 64 := by omega
      rw [show ((64 : Nat) : Int) = 64 from rfl]
      have H0' : Hid (wr.heap[w.heap.size]? = some (.cells (idC ms) 41 (0, 0))) := by
        have h := H0.out
        rw [List.take_of_length_le (by rw [HML.out]; exact Nat.le_refl _), List.drop_eq_nil_of_le (by rw [HL.out]; exact Nat.le_refl _), List.append_nil] at h
        exact h
      clear H0
      have HN := NewX_any wr (HV.out wr hkw)
      have hg1 : w.heap.size + 1 < wr.heap.size := lt_of_block H1.out
      go_wp2_with (first
        | (go_at_call 5; refine HN.mono ?_; rintro e w1 ⟨rfl, hH1, hk1⟩
           have HK1 : Hid (Kept [] w w1) := hkw.then hk1
           have HB1 : Hid (w1.heap[w.heap.size]? = some (.cells (idC ms) 41 (0, 0))) := hk1.heap H0'.out (by simp)
           have HZ1 : Hid (w1.heap[w.heap.size + 1]? = some (.cells (idC zid) 29 (0, 0))) := hk1.heap H1.out (by simp)
           have hbt := row_bytes_tag HB1.out
           rw [HML.out] at hbt
           have HW1 := WriteX_any w1 wr.heap.size [] _ ms (HV.out w1 HK1.out) hH1 hbt hmo (fun q hq _ => apart_ne (show w.heap.size ≠ wr.heap.size by omega) q hq) (by rw [HML.out]; omega) (by simp)
           clear hH1 hk1 hbt)
        | (go_at_call 6; first
           | (refine HW1.mono ?_; rintro e w2 ⟨rfl, hH2, hk2⟩
              have HK2 : Hid (Kept [] w w2) := HK1.out.trans hk2 (fun x hx => Or.inr (by simp at hx; omega))
              have HZ2 : Hid (w2.heap[w.heap.size + 1]? = some (.cells (idC zid) 29 (0, 0))) := hk2.heap HZ1.out (by simp; omega)
              have HW2 := WriteX_any w2 wr.heap.size ([] ++ ms) v xs (HV.out w2 HK2.out) hH2 (HX.out w2 HK2.out) ho (fun q hq hne => by have := hvl q hq hne; omega) hn (by rw [List.nil_append, HML.out]; omega)
              clear hH2 hk2 HW1)
           | (refine HW2.mono ?_; rintro e w3 ⟨rfl, hH3, hk3⟩
              have HK3 : Hid (Kept [] w w3) := HK2.out.trans hk3 (fun x hx => Or.inr (by simp at hx; omega))
              have HZ3 : Hid (w3.heap[w.heap.size + 1]? = some (.cells (idC zid) 29 (0, 0))) := hk3.heap HZ2.out (by simp; omega)
              have HS3 := SumX_any w3 wr.heap.size ([] ++ ms ++ xs) (HV.out w3 HK3.out) hH3
              rw [List.nil_append, HMS.out, ← HI.out] at HS3
              clear hH3 hk3 HW2))
        | (go_at_call 10; refine HS3.mono ?_; rintro e w4 ⟨rfl, hk4⟩
           have HK4 : Hid (Kept [] w w4) := HK3.out.then hk4
           have HZ4 : Hid (w4.heap[w.heap.size + 1]? = some (.cells (idC zid) 29 (0, 0))) := hk4.heap HZ3.out (by simp)
           clear hk4 HS3)
        | (refine wpList_store_row rfl 29 (.tmp 6) (.tmp 27) rfl (w.heap.size + 1) ic rfl rfl 29 _ HZ4.out hszi hosi halli ?_))
      refine bodyPost_ret (v := .agg ic) ?_ rfl ⟨by rw [HI.out], kept_setRow HK4.out (Nat.le_succ _) _⟩
      rw [results_cell rfl]
      have hld := run_loadVar_row (P := Tryd.prog) (w4.setRow (w.heap.size + 1) ic) (w.heap.size + 1) 29 29 ic (0, 0) _ (setRow_heap _ _ _ _ _ _ HZ4.out) Tryd.underlying29 rfl hszi
      exact hld
end Go.Proofs.YtdjfcackiclepaaDoor
