/-
  WALK: object.read of bytes that begin with no kind; Parse of what is no encoding.
-/
import Derived.Test.YtmambfdfkobjgaaDoorNm0
namespace Go.Proofs.YtmambfdfkobjgaaDoor
open Go.RowKit

set_option maxRecDepth 100000 in
set_option maxHeartbeats 2000000 in
theorem readKind (v : Value) (xs : List Int) (w : World) (hv : BytesAt w v xs) (ho : Octs xs) (hl : xs.length ≤ 65536) (y0 : Took) (h0 : Hid (y0 = takeL xs 0 0 0 1 0)) (k : Int) (hk : Hid (y0.n = k)) (n1 : ¬ k = 1) (n2 : ¬ k = 2) (n3 : ¬ k = 3) (n4 : ¬ k = 4) :
    Calls Tryd.prog 17 #[v] w fun e w' => Kept [] w w' ∧ e = .returned (.tuple #[.nilIface, .int .i64 30]) := by
  have hread := Read_any v xs w hv (by omega) ho
  have HU8 : Hid (∀ W r g, Rdr W r g xs 0 0 → Calls Tryd.prog 24 #[.pointer (some ⟨r, 0, none⟩)] W fun e w' => e = .returned (.int .u8 k) ∧ Rdr w' r g xs y0.pl y0.f ∧ Kept [r] W w') := fun W r g q => by
    have h := U8_any q y0 h0
    rw [hk.out] at h
    exact h
  have hlx : decide (65536 < (xs.length : Int)) = false := decide_eq_false (by omega)
  obtain ⟨ao, cap, rfl, _⟩ := hv
  go_enter Tryd.func17, Tryd.ntmps17
  go_wp2_with (first
    | (go_at_call 23; refine hread.mono ?_; rintro e w1 ⟨r, g, rfl, hr1, hk1, hrs, hgs⟩
       have HR1 : Hid (Rdr w1 r g xs 0 0) := hr1
       have HK1 : Hid (Kept [] w w1) := hk1
       clear hr1 hk1)
    | (go_at_call 24; refine (HU8.out _ r g HR1.out).mono ?_; rintro e w2 ⟨rfl, hr2, hk2⟩
       have HK2 : Hid (Kept [] w w2) := kept_new HK1.out hk2 hrs
       clear hr2 hk2))
  refine bodyPost_ret (v := .tuple #[.nilIface, .int .i64 30]) (by simp [results, Tryd.results17, go_sem]) rfl ⟨HK2.out, rfl⟩

set_option maxRecDepth 100000 in
set_option maxHeartbeats 2000000 in
theorem parseBad (v : Value) (w : World) (cv : Value) (er : Int) (her : ¬ er = 0) (hf : ∃ ao n c, v = .slice ao n c)
    (hrd : ∀ W, Kept [] w W → Calls Tryd.prog 17 #[v] W fun e w' => Kept [] W w' ∧ e = .returned (.tuple #[cv, .int .i64 er])) :
    Calls Tryd.prog 8 #[v] w fun e w' => Kept [] w w' ∧ e = .returned (.tuple #[.agg Tryd.zeroCells33, .int .i64 er]) := by
  have HK0 : Hid (Kept [] w (w.alloc (.cells Tryd.zeroCells33 33))) := (Kept.refl _ _).alloc _
  have HZ : Hid ((w.alloc (.cells Tryd.zeroCells33 33)).heap[w.heap.size]? = some (.cells Tryd.zeroCells33 33 (0, 0))) := heap_alloc_new w _
  have hrd0 := hrd _ HK0.out
  obtain ⟨ao, m, cc, rfl⟩ := hf
  clear hrd
  have hos : (Tryd.prog.info? 33).map (·.size) = some Tryd.zeroCells33.size := by kernel_rfl
  have ho1 : Tryd.zeroCells33.all (·.oneCell') = true := by kernel_rfl
  have hne : (er != 0) = true := bne_iff_ne.2 her
  go_enter Tryd.func8, Tryd.ntmps8
  go_wp2_with (first
    | (go_at_call 17; refine hrd0.mono ?_; rintro e w1 ⟨hk1, rfl⟩
       have HK1 : Hid (Kept [] w w1) := HK0.out.then hk1
       have HZ1 : Hid (w1.heap[w.heap.size]? = some (.cells Tryd.zeroCells33 33 (0, 0))) := hk1.heap HZ.out (by simp)
       clear hk1)
    | (refine wpList_store_row (by rfl) 33 (.tmp 2) (.tmp 13) (by rfl) w.heap.size Tryd.zeroCells33 (by rfl) (by rfl) 33 _ HZ1.out hos rfl ho1 ?_))
  refine bodyPost_ret (v := .tuple #[.agg Tryd.zeroCells33, .int .i64 er]) ?_ rfl ⟨kept_setRow HK1.out (Nat.le_refl _) _, rfl⟩
  rw [results_cell_tmp rfl]
  have hld := run_loadVar_row (P := Tryd.prog) (w1.setRow w.heap.size Tryd.zeroCells33) w.heap.size 33 33 Tryd.zeroCells33 (0, 0) _ (setRow_heap _ _ _ _ _ _ HZ1.out) Tryd.underlying33 rfl hos
  simp [asAddr, Result.andThen, hld]
theorem parseNil (w : World) : Calls Tryd.prog 8 #[.slice none 0 0] w fun e w' => Kept [] w w' ∧ e = .returned (.tuple #[.agg Tryd.zeroCells33, .int .i64 30]) :=
  parseBad _ w .nilIface 30 (by decide) ⟨_, _, _, rfl⟩ fun W _ => readKind _ [] W (BytesAt.nil W) (fun u hu => by cases hu) (by decide) _ rfl 0 (by show (takeL [] 0 0 0 1 0).n = 0; rfl) (by decide) (by decide) (by decide) (by decide)
end Go.Proofs.YtmambfdfkobjgaaDoor
