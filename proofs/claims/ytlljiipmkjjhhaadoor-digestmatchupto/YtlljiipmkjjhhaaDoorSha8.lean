/-
  WALKS: digest.Sum, for every list of bytes; satchellaw2.right answers true.
-/
import Derived.Test.YtlljiipmkjjhhaaDoorSha7
namespace Go.Proofs.YtlljiipmkjjhhaaDoor
open Go.RowKit

/-- The digest of bytes. -/
def digL (xs : List Int) : List Int := sumL (feedL (firstL, []) xs) xs.length
theorem digL_len (xs : List Int) : (digL xs).length = 32 := sumL_len _ _
theorem digL_octs (xs : List Int) : Octs (digL xs) := sumL_octs _ _
/-- A Hash that these bytes were written to. -/
def HashX (w : World) (b : Nat) (xs : List Int) : Prop := HashOf w b (feedL (firstL, []) xs) xs.length ∧ b ≠ 1 ∧ b ≠ 2
theorem HashX.kept {S : List Nat} {w w' : World} {b : Nat} {xs : List Int} (h : HashX w b xs) (k : Kept S w w') (hn : b ∉ S) : HashX w' b xs := ⟨h.1.kept k hn, h.2⟩
theorem HashX.lt {w : World} {b : Nat} {xs : List Int} (h : HashX w b xs) : b < w.heap.size := by
  obtain ⟨⟨r, hA, _⟩, _⟩ := h
  exact lt_of_block hA.cells

theorem NewX_any (w : World) (hV : Vars w) :
    Calls Tryd.prog 36 #[] w fun e w' => e = .returned (.pointer (some ⟨w.heap.size, 0, none⟩)) ∧ HashX w' w.heap.size [] ∧ Kept [] w w' :=
  (HNew_any w hV).mono fun _ _ h => ⟨h.1, ⟨h.2.1, by have := hV.lt; omega, by have := hV.lt; omega⟩, h.2.2⟩
theorem WriteX_any (w : World) (b : Nat) (ys : List Int) (v : Value) (xs : List Int) (hV : Vars w) (hH : HashX w b ys) (hx : BytesAt w v xs) (ho : Octs xs) (hd : ∀ q, blkOf v = some q → xs ≠ [] → q ≠ b) (hn : xs.length ≤ 140737488355328) (hy : ys.length ≤ 9000000000000000000) :
    Calls Tryd.prog 37 #[.pointer (some ⟨b, 0, none⟩), v] w fun e w' => e = .returned (.tuple #[]) ∧ HashX w' b (ys ++ xs) ∧ Kept [b] w w' := by
  refine (Write_any w b _ _ v xs hV hH.2.1 hH.2.2 hH.1 hx ho hd hn).mono fun _ _ h => ⟨h.1, ⟨?_, hH.2⟩, h.2.2⟩
  have e : IntKind.u64.wrap ((ys.length : Int) + xs.length) = ((ys ++ xs).length : Int) := by
    rw [IntKind.wrap_u64, List.length_append]; omega
  have := h.2.1
  rw [e, ← feed_append] at this
  exact this
theorem SumX_any (w : World) (b : Nat) (xs : List Int) (hV : Vars w) (hH : HashX w b xs) :
    Calls Tryd.prog 38 #[.pointer (some ⟨b, 0, none⟩)] w fun e w' => e = .returned (.agg (idC (digL xs))) ∧ Kept [] w w' := HSum_any w b _ _ hV hH.1

theorem BytesAt.lt {w : World} {v : Value} {xs : List Int} (hx : BytesAt w v xs) : ∀ q, blkOf v = some q → xs ≠ [] → q < w.heap.size := by
  intro q hq hne
  obtain ⟨ao, cap, rfl, _, _, hc⟩ := hx
  obtain ⟨b, off, rfl, hh⟩ := hc hne
  cases hq
  cases xs with
  | nil => exact absurd rfl hne
  | cons x r => exact World.block_lt_of_cell? w _ (hh 0 x rfl)

set_option maxRecDepth 100000 in
set_option maxHeartbeats 4000000 in
theorem Sum_any (w : World) (v : Value) (xs : List Int) (hV : Vars w) (hx : BytesAt w v xs) (ho : Octs xs) (hn : xs.length ≤ 140737488355328) :
    Calls Tryd.prog 24 #[v] w fun e w' => e = .returned (.agg (idC (digL xs))) ∧ Kept [] w w' := by
  have hvl := hx.lt
  obtain ⟨ic, hic⟩ : ∃ ic, ic = idC (digL xs) := ⟨_, rfl⟩
  have hszi : (Tryd.prog.info? 24).map (·.size) = some ic.size := by rw [hic, idC_size (digL_len xs)]; exact Tryd.infoID
  have halli : ic.all (·.oneCell') = true := by rw [hic]; exact all_oneCell_toArray (map_oneCell _)
  have hosi : (idC zid).size = ic.size := by rw [hic, idC_size (digL_len xs)]; rfl
  have HV : Hid (∀ W, Kept [] w W → Vars W) := fun W hk => hV.kept hk (by simp) (by simp)
  have HW : Hid (∀ W, Kept [] w W → ∀ b, w.heap.size < b → HashX W b [] → Calls Tryd.prog 37 #[.pointer (some ⟨b, 0, none⟩), v] W fun e w' => e = .returned (.tuple #[]) ∧ HashX w' b xs ∧ Kept [b] W w') :=
    fun W hk b hb hH => WriteX_any W b [] v xs (HV.out W hk) hH (hx.kept' hk (by simp)) ho (fun q hq hne => by have := hvl q hq hne; omega) hn (by simp)
  have HS : Hid (∀ W, Vars W → ∀ b, HashX W b xs → Calls Tryd.prog 38 #[.pointer (some ⟨b, 0, none⟩)] W fun e w' => e = .returned (.agg ic) ∧ Kept [] W w') := by
    rw [hic]; exact fun W h b hH => SumX_any W b xs h hH
  have HI : Hid (ic = idC (digL xs)) := hic
  have HN := NewX_any (w.alloc (.cells (idC zid) 24)) (HV.out _ ((Kept.refl [] w).alloc _))
  rw [show (w.alloc (.cells (idC zid) 24)).heap.size = w.heap.size + 1 by simp] at HN
  clear hvl hV hx ho hn hic
  go_enter Tryd.func24, Tryd.ntmps24
  go_wp2_with (first
    | (go_at_call 36; refine HN.mono ?_; rintro e w1 ⟨rfl, hH1, hk1⟩
       have HI1 : Hid (w1.heap[w.heap.size]? = some (.cells (idC zid) 24 (0, 0))) := hk1.heap (heap_alloc_new w _) (by simp)
       have HK1 : Hid (Kept [] w w1) := ((Kept.refl [] w).alloc _).then hk1
       have HW1 := HW.out w1 HK1.out (w.heap.size + 1) (by omega) hH1
       clear hH1 hk1)
    | (go_at_call 37; refine HW1.mono ?_; rintro e w2 ⟨rfl, hH2, hk2⟩
       have HI2 : Hid (w2.heap[w.heap.size]? = some (.cells (idC zid) 24 (0, 0))) := hk2.heap HI1.out (by simp)
       have HK2 : Hid (Kept [] w w2) := HK1.out.trans hk2 (fun x hx => Or.inr (by simp at hx; omega))
       have HS2 := HS.out w2 (HV.out w2 HK2.out) (w.heap.size + 1) hH2
       clear hH2 hk2)
    | (go_at_call 38; refine HS2.mono ?_; rintro e w3 ⟨rfl, hk3⟩
       have HI3 : Hid (w3.heap[w.heap.size]? = some (.cells (idC zid) 24 (0, 0))) := hk3.heap HI2.out (by simp)
       have HK3 : Hid (Kept [] w w3) := HK2.out.then hk3
       clear hk3)
    | (refine wpList_store_row rfl 24 (.tmp 2) (.tmp 9) rfl w.heap.size ic rfl rfl 24 _ HI3.out hszi hosi halli ?_))
  refine bodyPost_ret (v := .agg ic) ?_ rfl ⟨by rw [HI.out], kept_setRow HK3.out (Nat.le_refl _) _⟩
  rw [results_cell rfl]
  have hld := run_loadVar_row (P := Tryd.prog) (w3.setRow w.heap.size ic) w.heap.size 24 24 ic (0, 0) _ (setRow_heap _ _ _ _ _ _ HI3.out) Tryd.underlying24 rfl hszi
  exact hld
end Go.Proofs.YtlljiipmkjjhhaaDoor
