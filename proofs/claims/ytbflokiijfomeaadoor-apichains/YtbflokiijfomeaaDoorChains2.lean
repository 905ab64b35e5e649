/-
  Contracts of errors.as two Faults down and at a Fault that wraps nothing, and of errors.As where the target is an *api.Errno.
-/
import Derived.Test.YtbflokiijfomeaaDoorChains1
namespace Go.Proofs.YtbflokiijfomeaaDoor
open Go.RowKit Go.Extern.Stop Go.Stop Go.Extern

/-- A Fault that wraps a Fault that wraps an Errno. -/
theorem as_two (c b : Nat) (k : Int) (t a : Addr) (old : Value) (x : Value) (w : World) (hc : w.cell? ⟨c, 3, none⟩ = some (faultIf b)) (hb : w.cell? ⟨b, 3, none⟩ = some (errnoIf k)) (ha : w.cell? a = some (.pointer (some t))) (ht : w.cell? t = some old) (hf : w.frozen? t = false) :
    Calls Tryd.prog 10 #[faultIf c, x, tgt a, hnd 23] w fun e w' => e = .returned (.bool true) ∧ w' = ((w.alloc (tgtCells a)).alloc (.cells #[.int .i64 k] 23)).setCell t (.int .i64 k) := by
  have h7 := @run_callFunc_extern Tryd.prog 7 _ (fun args => ReflectliteValue.unpack (args.getD 0 (.tuple #[]))) Tryd.func7 (by kernel_rfl) (by kernel_rfl) (by kernel_rfl) (by kernel_rfl)
  have h11 := @run_callFunc_extern Tryd.prog 11 _ ReflectliteType.typeOf Tryd.func11 (by kernel_rfl) (by kernel_rfl) (by kernel_rfl) (by kernel_rfl)
  have h38 := @run_callFunc_extern Tryd.prog 38 _ (ReflectliteType.relation "AssignableTo" ReflectliteType.assignableTo) Tryd.func38 (by kernel_rfl) (by kernel_rfl) (by kernel_rfl) (by kernel_rfl)
  have h12 := @run_callFunc_extern Tryd.prog 12 _ (ReflectliteValue.method (ReflectliteValue.valueError "reflectlite.Value.Elem" 0) ReflectliteValue.elem) Tryd.func12 (by kernel_rfl) (by kernel_rfl) (by kernel_rfl) (by kernel_rfl)
  have h13 := @run_callFunc_extern Tryd.prog 13 _ ReflectliteValue.set Tryd.func13 (by kernel_rfl) (by kernel_rfl) (by kernel_rfl) (by kernel_rfl)
  have f1 := k_typeOfE
  have f2 := mAssign
  have f3 := k_assignE
  have f4 := k_valueOfE
  have lt1 : t.block < w.heap.size := lt_cell ht
  have lt2 : a.block < w.heap.size := lt_cell ha
  have f5 := k_elemV a t (w.alloc (tgtCells a)) (by rw [World.cell?_alloc_lt _ _ a lt2]; exact ha)
  have f6 := k_set t ⟨w.heap.size + 1, 0, none⟩ k old ((w.alloc (tgtCells a)).alloc (.cells #[.int .i64 k] 23))
    (by rw [World.cell?_alloc_at _ _ _ _ (by simp)]; rfl)
    (by rw [World.cell?_alloc_lt _ _ t (by simp; omega), World.cell?_alloc_lt _ _ t lt1]; exact ht)
    (by rw [World.frozen?_alloc_old _ _ t (by simp; omega), World.frozen?_alloc_old _ _ t (Nat.ne_of_lt lt1)]; exact hf)
  have g1 := k_typeOfF
  have g3 := noAs
  have g4 := hasUnwrap
  have g5 := mUnwrap
  have g2 := k_assignF
  have lt3 : b < w.heap.size := lt_cell hb
  have hb1 : (w.alloc (tgtCells a)).cell? ⟨b, 3, none⟩ = some (errnoIf k) := by rw [World.cell?_alloc_lt _ _ ⟨b, 3, none⟩ lt3]; exact hb
  have lt4 : c < w.heap.size := lt_cell hc
  have hc1 : (w.alloc (tgtCells a)).cell? ⟨c, 3, none⟩ = some (faultIf b) := by rw [World.cell?_alloc_lt _ _ ⟨c, 3, none⟩ lt4]; exact hc
  go_enter Tryd.func10, Tryd.ntmps10
  go_wp2
  refine wp_loop_rounds 3 ?_
  rw [rounds_succ]
  go_wp2_with (go_at_call 32; refine (unwrap_at c _ _ hc1).mono ?_; rintro e w' ⟨rfl, rfl⟩)
  rw [rounds_succ]
  go_wp2_with (go_at_call 32; refine (unwrap_at b _ _ hb1).mono ?_; rintro e w' ⟨rfl, rfl⟩)
  rw [rounds_succ]
  go_wp2
  go_ret
  exact ⟨rfl, rfl⟩

/-- A Fault that wraps nothing. -/
theorem as_none (b : Nat) (a : Addr) (x : Value) (w : World) (hb : w.cell? ⟨b, 3, none⟩ = some .nilIface) :
    Calls Tryd.prog 10 #[faultIf b, x, tgt a, hnd 23] w fun e w' => e = .returned (.bool false) ∧ w' = w.alloc (tgtCells a) := by
  have h11 := @run_callFunc_extern Tryd.prog 11 _ ReflectliteType.typeOf Tryd.func11 (by kernel_rfl) (by kernel_rfl) (by kernel_rfl) (by kernel_rfl)
  have h38 := @run_callFunc_extern Tryd.prog 38 _ (ReflectliteType.relation "AssignableTo" ReflectliteType.assignableTo) Tryd.func38 (by kernel_rfl) (by kernel_rfl) (by kernel_rfl) (by kernel_rfl)
  have f2 := mAssign
  have g1 := k_typeOfF
  have g2 := k_assignF
  have g3 := noAs
  have g4 := hasUnwrap
  have g5 := mUnwrap
  have lt3 : b < w.heap.size := lt_cell hb
  have hb1 : (w.alloc (tgtCells a)).cell? ⟨b, 3, none⟩ = some .nilIface := by rw [World.cell?_alloc_lt _ _ ⟨b, 3, none⟩ lt3]; exact hb
  go_enter Tryd.func10, Tryd.ntmps10
  go_wp2
  refine wp_loop_rounds 1 ?_
  rw [rounds_succ]
  go_wp2_with (go_at_call 32; refine (unwrap_at b _ _ hb1).mono ?_; rintro e w' ⟨rfl, rfl⟩)
  go_ret
  exact ⟨rfl, rfl⟩

theorem k_impl (w : World) : (ReflectliteType.relation "Implements" ReflectliteType.implements_ #[.agg #[.pointer (some ⟨1, 23, none⟩)], hnd 26]).run Tryd.prog w = .ok (.bool true) w := by kernel_rfl
/-- errors.As at a variable t of an api.Errno: what errors.as answers. -/
theorem As_of (ty : TypeId) (v : Value) (t : Addr) (b : Bool) (w W' : World) (n : Nat) (hn : w.heap.size = n) (hg : w.cell? ⟨0, 0, none⟩ = some (hnd 26))
    (hA : Calls Tryd.prog 10 #[.iface ty v, .iface 33 (.pointer (some t)), tgt ⟨n, 0, none⟩, hnd 23] ((w.alloc (.cells #[.pointer (some t)] 33)).alloc (tgtCells ⟨n, 0, none⟩)) fun e w' => e = .returned (.bool b) ∧ w' = W') :
    Calls Tryd.prog 6 #[.iface ty v, .iface 33 (.pointer (some t))] w fun e w' => e = .returned (.bool b) ∧ w' = W' := by
  subst hn
  have h7 := @run_callFunc_extern Tryd.prog 7 _ (fun args => ReflectliteValue.unpack (args.getD 0 (.tuple #[]))) Tryd.func7 (by kernel_rfl) (by kernel_rfl) (by kernel_rfl) (by kernel_rfl)
  have h8 := @run_callFunc_extern Tryd.prog 8 _ (ReflectliteValue.methodAny (ReflectliteValue.valueError "reflectlite.Value.Type" 0) (fun t _ _ _ => ReflectliteType.toType t)) Tryd.func8 (by kernel_rfl) (by kernel_rfl) (by kernel_rfl) (by kernel_rfl)
  have h9 := @run_callFunc_extern Tryd.prog 9 _ (ReflectliteValue.method (ReflectliteValue.valueError "reflectlite.Value.IsNil" 0) ReflectliteValue.isNil) Tryd.func9 (by kernel_rfl) (by kernel_rfl) (by kernel_rfl) (by kernel_rfl)
  have h28 := @run_callFunc_extern Tryd.prog 28 _ (ReflectliteType.abiMethod fun t => do pure (.int .u8 (← Rtype.kind t))) Tryd.func28 (by kernel_rfl) (by kernel_rfl) (by kernel_rfl) (by kernel_rfl)
  have h40 := @run_callFunc_extern Tryd.prog 40 _ (ReflectliteType.method ReflectliteType.elem) Tryd.func40 (by kernel_rfl) (by kernel_rfl) (by kernel_rfl) (by kernel_rfl)
  have h41 := @run_callFunc_extern Tryd.prog 41 _ (ReflectliteType.relation "Implements" ReflectliteType.implements_) Tryd.func41 (by kernel_rfl) (by kernel_rfl) (by kernel_rfl) (by kernel_rfl)
  have f1 := k_valueOfT
  have f2 := k_typeT
  have f3 := mKind
  have f4 := k_kindT
  have f5 := k_kindE
  have f6 := mElem
  have f7 := k_elemT
  have f8 := k_isNil ⟨w.heap.size, 0, none⟩ t ((w.alloc (.cells #[.pointer (some t)] 33)).alloc (tgtCells ⟨w.heap.size, 0, none⟩)) (by simp)
  have f9 := mImpl
  have f10 := k_impl
  have lt0 : 0 < w.heap.size := lt_cell hg
  have hg2 : ((w.alloc (.cells #[.pointer (some t)] 33)).alloc (tgtCells ⟨w.heap.size, 0, none⟩)).cell? ⟨0, 0, none⟩ = some (hnd 26) := by
    rw [World.cell?_alloc_lt _ _ ⟨0, 0, none⟩ (by simp), World.cell?_alloc_lt _ _ ⟨0, 0, none⟩ lt0]; exact hg
  go_enter Tryd.func6, Tryd.ntmps6
  go_wp2_with (go_at_call 10; refine hA.mono ?_; rintro e w' ⟨rfl, rfl⟩)
  go_ret
  exact ⟨rfl, rfl⟩
end Go.Proofs.YtbflokiijfomeaaDoor
