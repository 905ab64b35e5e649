/-
  Contracts of api.Code, and the walk of ApiChains.
-/
import Derived.Test.YtbflokiijfomeaaDoorChains2
import Derived.Test.YtbflokiijfomeaaDoorBase
namespace Go.Proofs.YtbflokiijfomeaaDoor
open Go.RowKit Go.Extern.Stop Go.Stop Go.Extern

theorem code_nil (w : World) : Calls Tryd.prog 4 #[.nilIface] w fun e w' => e = .returned (.int .i64 0) ∧ w' = w := by
  go_enter Tryd.func4, Tryd.ntmps4
  go_wp2
  go_ret
  exact ⟨rfl, rfl⟩

theorem num_any (k : Int) (w : World) : Calls Tryd.prog 5 #[.int .i64 k] w fun e w' => e = .returned (.int .i64 k) ∧ w' = w := by
  go_enter Tryd.func5, Tryd.ntmps5
  go_wp2
  go_ret
  exact ⟨rfl, rfl⟩

/-- Code of an Errno. -/
theorem code_errno (k : Int) (w : World) (hg : w.cell? ⟨0, 0, none⟩ = some (hnd 26)) :
    Calls Tryd.prog 4 #[.iface 23 (.int .i64 k)] w fun e w' => e = .returned (.int .i64 k) ∧ Kept [] w w' := by
  have lt0 : 0 < w.heap.size := lt_cell hg
  have hg1 : (w.alloc (.cells #[.int .i64 0] 23)).cell? ⟨0, 0, none⟩ = some (hnd 26) := by rw [World.cell?_alloc_lt _ _ ⟨0, 0, none⟩ lt0]; exact hg
  have up : ∀ {p : Addr} {u : Value}, w.cell? p = some u → ((((w.alloc (.cells #[.int .i64 0] 23)).alloc (.cells #[.pointer (some ⟨w.heap.size, 0, none⟩)] 33)).alloc (tgtCells ⟨w.heap.size + 1, 0, none⟩))).cell? p = some u := fun {p u} h => by
    have lt := lt_cell h
    rw [World.cell?_alloc_lt _ _ p (by simp; omega), World.cell?_alloc_lt _ _ p (by simp; omega), World.cell?_alloc_lt _ _ p lt]; exact h
  have ha : ((((w.alloc (.cells #[.int .i64 0] 23)).alloc (.cells #[.pointer (some ⟨w.heap.size, 0, none⟩)] 33)).alloc (tgtCells ⟨w.heap.size + 1, 0, none⟩))).cell? ⟨w.heap.size + 1, 0, none⟩ = some (.pointer (some ⟨w.heap.size, 0, none⟩)) := by
    rw [World.cell?_alloc_lt _ _ ⟨w.heap.size + 1, 0, none⟩ (by simp), World.cell?_alloc_at _ _ _ _ (by simp)]; rfl
  have ht : ((((w.alloc (.cells #[.int .i64 0] 23)).alloc (.cells #[.pointer (some ⟨w.heap.size, 0, none⟩)] 33)).alloc (tgtCells ⟨w.heap.size + 1, 0, none⟩))).cell? ⟨w.heap.size, 0, none⟩ = some (.int .i64 0) := by
    rw [World.cell?_alloc_lt _ _ ⟨w.heap.size, 0, none⟩ (by simp; omega), World.cell?_alloc_lt _ _ ⟨w.heap.size, 0, none⟩ (by simp), World.cell?_alloc_at _ _ _ _ rfl]; rfl
  have hf : ((((w.alloc (.cells #[.int .i64 0] 23)).alloc (.cells #[.pointer (some ⟨w.heap.size, 0, none⟩)] 33)).alloc (tgtCells ⟨w.heap.size + 1, 0, none⟩))).frozen? ⟨w.heap.size, 0, none⟩ = false := by
    rw [World.frozen?_alloc_old _ _ ⟨w.heap.size, 0, none⟩ (by simp; omega), World.frozen?_alloc_old _ _ ⟨w.heap.size, 0, none⟩ (by simp)]; simp
  have hA := As_of 23 (.int .i64 k) ⟨w.heap.size, 0, none⟩ _ (w.alloc (.cells #[.int .i64 0] 23)) _ (w.heap.size + 1) (by simp) hg1 (as_hit k _ _ _ _ _ ha ht hf)
  go_enter Tryd.func4, Tryd.ntmps4
  go_wp2_with (go_at_call 6; refine hA.mono ?_; rintro e w' ⟨rfl, rfl⟩)
  go_ret
  exact ⟨rfl, (((((Kept.refl [] w).alloc _).alloc _).alloc _).alloc _).alloc _⟩

/-- Code of a Fault that wraps an Errno. -/
theorem code_one (b : Nat) (k : Int) (w : World) (hg : w.cell? ⟨0, 0, none⟩ = some (hnd 26)) (hb : w.cell? ⟨b, 3, none⟩ = some (errnoIf k)) :
    Calls Tryd.prog 4 #[.iface 22 (.pointer (some ⟨b, 0, none⟩))] w fun e w' => e = .returned (.int .i64 k) ∧ Kept [] w w' := by
  have lt0 : 0 < w.heap.size := lt_cell hg
  have hg1 : (w.alloc (.cells #[.int .i64 0] 23)).cell? ⟨0, 0, none⟩ = some (hnd 26) := by rw [World.cell?_alloc_lt _ _ ⟨0, 0, none⟩ lt0]; exact hg
  have up : ∀ {p : Addr} {u : Value}, w.cell? p = some u → ((((w.alloc (.cells #[.int .i64 0] 23)).alloc (.cells #[.pointer (some ⟨w.heap.size, 0, none⟩)] 33)).alloc (tgtCells ⟨w.heap.size + 1, 0, none⟩))).cell? p = some u := fun {p u} h => by
    have lt := lt_cell h
    rw [World.cell?_alloc_lt _ _ p (by simp; omega), World.cell?_alloc_lt _ _ p (by simp; omega), World.cell?_alloc_lt _ _ p lt]; exact h
  have ha : ((((w.alloc (.cells #[.int .i64 0] 23)).alloc (.cells #[.pointer (some ⟨w.heap.size, 0, none⟩)] 33)).alloc (tgtCells ⟨w.heap.size + 1, 0, none⟩))).cell? ⟨w.heap.size + 1, 0, none⟩ = some (.pointer (some ⟨w.heap.size, 0, none⟩)) := by
    rw [World.cell?_alloc_lt _ _ ⟨w.heap.size + 1, 0, none⟩ (by simp), World.cell?_alloc_at _ _ _ _ (by simp)]; rfl
  have ht : ((((w.alloc (.cells #[.int .i64 0] 23)).alloc (.cells #[.pointer (some ⟨w.heap.size, 0, none⟩)] 33)).alloc (tgtCells ⟨w.heap.size + 1, 0, none⟩))).cell? ⟨w.heap.size, 0, none⟩ = some (.int .i64 0) := by
    rw [World.cell?_alloc_lt _ _ ⟨w.heap.size, 0, none⟩ (by simp; omega), World.cell?_alloc_lt _ _ ⟨w.heap.size, 0, none⟩ (by simp), World.cell?_alloc_at _ _ _ _ rfl]; rfl
  have hf : ((((w.alloc (.cells #[.int .i64 0] 23)).alloc (.cells #[.pointer (some ⟨w.heap.size, 0, none⟩)] 33)).alloc (tgtCells ⟨w.heap.size + 1, 0, none⟩))).frozen? ⟨w.heap.size, 0, none⟩ = false := by
    rw [World.frozen?_alloc_old _ _ ⟨w.heap.size, 0, none⟩ (by simp; omega), World.frozen?_alloc_old _ _ ⟨w.heap.size, 0, none⟩ (by simp)]; simp
  have hA := As_of 22 (.pointer (some ⟨b, 0, none⟩)) ⟨w.heap.size, 0, none⟩ _ (w.alloc (.cells #[.int .i64 0] 23)) _ (w.heap.size + 1) (by simp) hg1 (as_one b k _ _ _ _ _ (up hb) ha ht hf)
  go_enter Tryd.func4, Tryd.ntmps4
  go_wp2_with (go_at_call 6; refine hA.mono ?_; rintro e w' ⟨rfl, rfl⟩)
  go_ret
  exact ⟨rfl, (((((Kept.refl [] w).alloc _).alloc _).alloc _).alloc _).alloc _⟩

/-- Code of a Fault that wraps a Fault that wraps an Errno. -/
theorem code_two (c b : Nat) (k : Int) (w : World) (hg : w.cell? ⟨0, 0, none⟩ = some (hnd 26)) (hc : w.cell? ⟨c, 3, none⟩ = some (faultIf b)) (hb : w.cell? ⟨b, 3, none⟩ = some (errnoIf k)) :
    Calls Tryd.prog 4 #[.iface 22 (.pointer (some ⟨c, 0, none⟩))] w fun e w' => e = .returned (.int .i64 k) ∧ Kept [] w w' := by
  have lt0 : 0 < w.heap.size := lt_cell hg
  have hg1 : (w.alloc (.cells #[.int .i64 0] 23)).cell? ⟨0, 0, none⟩ = some (hnd 26) := by rw [World.cell?_alloc_lt _ _ ⟨0, 0, none⟩ lt0]; exact hg
  have up : ∀ {p : Addr} {u : Value}, w.cell? p = some u → ((((w.alloc (.cells #[.int .i64 0] 23)).alloc (.cells #[.pointer (some ⟨w.heap.size, 0, none⟩)] 33)).alloc (tgtCells ⟨w.heap.size + 1, 0, none⟩))).cell? p = some u := fun {p u} h => by
    have lt := lt_cell h
    rw [World.cell?_alloc_lt _ _ p (by simp; omega), World.cell?_alloc_lt _ _ p (by simp; omega), World.cell?_alloc_lt _ _ p lt]; exact h
  have ha : ((((w.alloc (.cells #[.int .i64 0] 23)).alloc (.cells #[.pointer (some ⟨w.heap.size, 0, none⟩)] 33)).alloc (tgtCells ⟨w.heap.size + 1, 0, none⟩))).cell? ⟨w.heap.size + 1, 0, none⟩ = some (.pointer (some ⟨w.heap.size, 0, none⟩)) := by
    rw [World.cell?_alloc_lt _ _ ⟨w.heap.size + 1, 0, none⟩ (by simp), World.cell?_alloc_at _ _ _ _ (by simp)]; rfl
  have ht : ((((w.alloc (.cells #[.int .i64 0] 23)).alloc (.cells #[.pointer (some ⟨w.heap.size, 0, none⟩)] 33)).alloc (tgtCells ⟨w.heap.size + 1, 0, none⟩))).cell? ⟨w.heap.size, 0, none⟩ = some (.int .i64 0) := by
    rw [World.cell?_alloc_lt _ _ ⟨w.heap.size, 0, none⟩ (by simp; omega), World.cell?_alloc_lt _ _ ⟨w.heap.size, 0, none⟩ (by simp), World.cell?_alloc_at _ _ _ _ rfl]; rfl
  have hf : ((((w.alloc (.cells #[.int .i64 0] 23)).alloc (.cells #[.pointer (some ⟨w.heap.size, 0, none⟩)] 33)).alloc (tgtCells ⟨w.heap.size + 1, 0, none⟩))).frozen? ⟨w.heap.size, 0, none⟩ = false := by
    rw [World.frozen?_alloc_old _ _ ⟨w.heap.size, 0, none⟩ (by simp; omega), World.frozen?_alloc_old _ _ ⟨w.heap.size, 0, none⟩ (by simp)]; simp
  have hA := As_of 22 (.pointer (some ⟨c, 0, none⟩)) ⟨w.heap.size, 0, none⟩ _ (w.alloc (.cells #[.int .i64 0] 23)) _ (w.heap.size + 1) (by simp) hg1 (as_two c b k _ _ _ _ _ (up hc) (up hb) ha ht hf)
  go_enter Tryd.func4, Tryd.ntmps4
  go_wp2_with (go_at_call 6; refine hA.mono ?_; rintro e w' ⟨rfl, rfl⟩)
  go_ret
  exact ⟨rfl, (((((Kept.refl [] w).alloc _).alloc _).alloc _).alloc _).alloc _⟩

/-- Code of a Fault that wraps nothing. -/
theorem code_none (b : Nat) (w : World) (hg : w.cell? ⟨0, 0, none⟩ = some (hnd 26)) (hb : w.cell? ⟨b, 3, none⟩ = some .nilIface) :
    Calls Tryd.prog 4 #[.iface 22 (.pointer (some ⟨b, 0, none⟩))] w fun e w' => e = .returned (.int .i64 (-1)) ∧ Kept [] w w' := by
  have lt0 : 0 < w.heap.size := lt_cell hg
  have hg1 : (w.alloc (.cells #[.int .i64 0] 23)).cell? ⟨0, 0, none⟩ = some (hnd 26) := by rw [World.cell?_alloc_lt _ _ ⟨0, 0, none⟩ lt0]; exact hg
  have up : ∀ {p : Addr} {u : Value}, w.cell? p = some u → ((((w.alloc (.cells #[.int .i64 0] 23)).alloc (.cells #[.pointer (some ⟨w.heap.size, 0, none⟩)] 33)).alloc (tgtCells ⟨w.heap.size + 1, 0, none⟩))).cell? p = some u := fun {p u} h => by
    have lt := lt_cell h
    rw [World.cell?_alloc_lt _ _ p (by simp; omega), World.cell?_alloc_lt _ _ p (by simp; omega), World.cell?_alloc_lt _ _ p lt]; exact h
  have hA := As_of 22 (.pointer (some ⟨b, 0, none⟩)) ⟨w.heap.size, 0, none⟩ _ (w.alloc (.cells #[.int .i64 0] 23)) _ (w.heap.size + 1) (by simp) hg1 (as_none b _ _ _ (up hb))
  go_enter Tryd.func4, Tryd.ntmps4
  go_wp2_with (go_at_call 6; refine hA.mono ?_; rintro e w' ⟨rfl, rfl⟩)
  go_ret
  exact ⟨rfl, ((((Kept.refl [] w).alloc _).alloc _).alloc _).alloc _⟩


/-- A new Fault with the text s that wraps e. -/
abbrev faultCells (s : UInt8) (e : Value) : Obj := .cells #[.string { data := #[s] }, .int .i64 0, .slice none 0 0, e] 28

set_option maxHeartbeats 4000000 in
theorem chains_any (w : World) (hg : w.cell? ⟨0, 0, none⟩ = some (hnd 26)) : Calls Tryd.prog 3 #[] w fun e w' => e = .returned (.bool true) ∧ Kept [] w w' := by
  have lt0 : 0 < w.heap.size := lt_cell hg
  obtain ⟨W, hW⟩ : ∃ W, W = ((w.alloc (faultCells 120 (errnoIf 91))).alloc (faultCells 121 (faultIf w.heap.size))).alloc (faultCells 122 .nilIface) := ⟨_, rfl⟩
  have k0 : Kept [] w W := by rw [hW]; exact (((Kept.refl [] w).alloc _).alloc _).alloc _
  have g0 : W.cell? ⟨0, 0, none⟩ = some (hnd 26) := k0.cell hg (by simp)
  have c1 : W.cell? ⟨w.heap.size, 3, none⟩ = some (errnoIf 91) := by
    rw [hW, World.cell?_alloc_lt _ _ ⟨w.heap.size, 3, none⟩ (by simp; omega), World.cell?_alloc_lt _ _ ⟨w.heap.size, 3, none⟩ (by simp), World.cell?_alloc_at _ _ _ _ rfl]; rfl
  have c2 : W.cell? ⟨w.heap.size + 1, 3, none⟩ = some (faultIf w.heap.size) := by
    rw [hW, World.cell?_alloc_lt _ _ ⟨w.heap.size + 1, 3, none⟩ (by simp), World.cell?_alloc_at _ _ _ _ (by simp)]; rfl
  have c3 : W.cell? ⟨w.heap.size + 1 + 1, 3, none⟩ = some .nilIface := by
    rw [hW, World.cell?_alloc_at _ _ _ _ (by simp)]; rfl
  go_enter Tryd.func3, Tryd.ntmps3
  go_wp2_with (first
    | (go_at_call 5; with_reducible refine (num_any _ _).mono ?_; rintro e w' ⟨rfl, rfl⟩)
    | (go_at_call 4; with_reducible refine (code_nil _).mono ?_; rintro e w' ⟨rfl, rfl⟩)
    | (go_at_call 4; with_reducible refine (code_errno 192 _ (by first | exact g3)).mono ?_; rintro e W4 ⟨rfl, k4⟩)
    | (go_at_call 4; rw [← hW]; with_reducible refine (code_one w.heap.size 91 W g0 c1).mono ?_; rintro e W1 ⟨rfl, k1⟩; have g1 := k1.cell g0 (by simp); have d1 := k1.cell c1 (by simp); have d2 := k1.cell c2 (by simp); have d3 := k1.cell c3 (by simp))
    | (go_at_call 4; with_reducible refine (code_two _ _ 91 _ g1 d2 d1).mono ?_; rintro e W2 ⟨rfl, k2⟩; have g2 := k2.cell g1 (by simp); have e3 := k2.cell d3 (by simp))
    | (go_at_call 4; with_reducible refine (code_none _ _ g2 e3).mono ?_; rintro e W3 ⟨rfl, k3⟩; have g3 := k3.cell g2 (by simp)))
  go_ret
  exact ⟨rfl, k0.then (k1.then (k2.then (k3.then k4)))⟩
end Go.Proofs.YtbflokiijfomeaaDoor
