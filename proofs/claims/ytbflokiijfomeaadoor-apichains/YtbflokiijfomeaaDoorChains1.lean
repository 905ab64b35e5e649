/-
  Contracts of errors.as and errors.As where the target is an *api.Errno, and of api.Code: the number of an Errno; the number that lies one or two Faults down; -1 at a Fault that wraps nothing; 0 of nil.
-/
import Derived.Test.YtbflokiijfomeaaDoorChains0
namespace Go.Proofs.YtbflokiijfomeaaDoor
open Go.RowKit Go.Extern.Stop Go.Stop Go.Extern

theorem mAssign (h : Value) (w : World) : (Go.method 192 47 (.agg #[h]) "AssignableTo").run Tryd.prog w = .ok (38, .agg #[h]) w := by kernel_rfl
theorem mElem (h : Value) (w : World) : (Go.method 192 47 (.agg #[h]) "Elem").run Tryd.prog w = .ok (40, .agg #[h]) w := by kernel_rfl
theorem mImpl (h : Value) (w : World) : (Go.method 192 47 (.agg #[h]) "Implements").run Tryd.prog w = .ok (41, .agg #[h]) w := by kernel_rfl
theorem mKind (h : Value) (w : World) : (Go.method 192 47 (.agg #[h]) "Kind").run Tryd.prog w = .ok (28, h) w := by kernel_rfl

abbrev errnoIf (k : Int) : Value := .iface 23 (.int .i64 k)
abbrev faultIf (b : Nat) : Value := .iface 22 (.pointer (some ⟨b, 0, none⟩))

theorem lt_cell {w : World} {a : Addr} {v : Value} (h : w.cell? a = some v) : a.block < w.heap.size := by
  rcases Nat.lt_or_ge a.block w.heap.size with k | k
  · exact k
  · simp [World.cell?, Array.getElem?_eq_none k] at h

theorem noAs (v : Value) (w : World) : (Instr.typeAssert (.iface 22 v) 26 52 true).run Tryd.prog w = .ok (.tuple #[.nilIface, .bool false]) w := run_typeAssert_lacksB Tryd.underlying52 (by kernel_rfl) (by kernel_rfl) v 26 w
theorem hasUnwrap (v : Value) (w : World) : (Instr.typeAssert (.iface 22 v) 26 55 true).run Tryd.prog w = .ok (.tuple #[.iface 22 v, .bool true]) w := run_typeAssert_hasB Tryd.underlying55 (by kernel_rfl) v 26 w
theorem mUnwrap (h : Value) (w : World) : (Go.method 192 22 h "Unwrap").run Tryd.prog w = .ok (32, h) w := by kernel_rfl
/-- (*api.Fault).Unwrap. -/
theorem unwrap_at (b : Nat) (v : Value) (w : World) (h : w.cell? ⟨b, 3, none⟩ = some v) : Calls Tryd.prog 32 #[.pointer (some ⟨b, 0, none⟩)] w fun e w' => e = .returned v ∧ w' = w := by
  go_enter Tryd.func32, Tryd.ntmps32
  go_wp2
  go_ret
  exact ⟨rfl, rfl⟩
/-- The first round of errors.as finds an Errno. -/
theorem as_hit (k : Int) (t a : Addr) (old : Value) (x : Value) (w : World) (ha : w.cell? a = some (.pointer (some t))) (ht : w.cell? t = some old) (hf : w.frozen? t = false) :
    Calls Tryd.prog 10 #[errnoIf k, x, tgt a, hnd 23] w fun e w' => e = .returned (.bool true) ∧ w' = ((w.alloc (tgtCells a)).alloc (.cells #[.int .i64 k] 23)).setCell t (.int .i64 k) := by
  have h7 := @run_callFunc_extern Tryd.prog 7 _ (fun args => ReflectliteValue.unpack (args.getD 0 (.tuple #[]))) Tryd.func7 (by kernel_rfl) (by kernel_rfl) (by kernel_rfl) (by kernel_rfl)
  have h11 := @run_callFunc_extern Tryd.prog 11 _ ReflectliteType.typeOf Tryd.func11 (by kernel_rfl) (by kernel_rfl) (by kernel_rfl) (by kernel_rfl)
  have h38 := @run_callFunc_extern Tryd.prog 38 _ (ReflectliteType.relation "AssignableTo" ReflectliteType.assignableTo) Tryd.func38 (by kernel_rfl) (by kernel_rfl) (by kernel_rfl) (by kernel_rfl)
  have h12 := @run_callFunc_extern Tryd.prog 12 _ (ReflectliteValue.method (ReflectliteValue.valueError "reflectlite.Value.Elem" 0) ReflectliteValue.elem) Tryd.func12 (by kernel_rfl) (by kernel_rfl) (by kernel_rfl) (by kernel_rfl)
  have h13 := @run_callFunc_extern Tryd.prog 13 _ ReflectliteValue.set Tryd.func13 (by kernel_rfl) (by kernel_rfl) (by kernel_rfl) (by kernel_rfl)
  have f1 := k_typeOfE
  have f2 := mAssign
  have f3 := k_assignE
  have f4 := k_valueOfE
  have lt1 : t.block < w.heap.size := lt_cell ht
  have lt2 : a.block < w.heap.size := lt_cell ha
  have f5 := k_elemV a t (w.alloc (tgtCells a)) (by rw [World.cell?_alloc_lt _ _ a lt2]; exact ha)
  have f6 := k_set t ⟨w.heap.size + 1, 0, none⟩ k old ((w.alloc (tgtCells a)).alloc (.cells #[.int .i64 k] 23))
    (by rw [World.cell?_alloc_at _ _ _ _ (by simp)]; rfl)
    (by rw [World.cell?_alloc_lt _ _ t (by simp; omega), World.cell?_alloc_lt _ _ t lt1]; exact ht)
    (by rw [World.frozen?_alloc_old _ _ t (by simp; omega), World.frozen?_alloc_old _ _ t (Nat.ne_of_lt lt1)]; exact hf)
  go_enter Tryd.func10, Tryd.ntmps10
  go_wp2
  refine wp_loop_rounds 1 ?_
  rw [rounds_succ]
  go_wp2
  go_ret
  exact ⟨rfl, rfl⟩

/-- A Fault that wraps an Errno. -/
theorem as_one (b : Nat) (k : Int) (t a : Addr) (old : Value) (x : Value) (w : World) (hb : w.cell? ⟨b, 3, none⟩ = some (errnoIf k)) (ha : w.cell? a = some (.pointer (some t))) (ht : w.cell? t = some old) (hf : w.frozen? t = false) :
    Calls Tryd.prog 10 #[faultIf b, x, tgt a, hnd 23] w fun e w' => e = .returned (.bool true) ∧ w' = ((w.alloc (tgtCells a)).alloc (.cells #[.int .i64 k] 23)).setCell t (.int .i64 k) := by
  have h7 := @run_callFunc_extern Tryd.prog 7 _ (fun args => ReflectliteValue.unpack (args.getD 0 (.tuple #[]))) Tryd.func7 (by kernel_rfl) (by kernel_rfl) (by kernel_rfl) (by kernel_rfl)
  have h11 := @run_callFunc_extern Tryd.prog 11 _ ReflectliteType.typeOf Tryd.func11 (by kernel_rfl) (by kernel_rfl) (by kernel_rfl) (by kernel_rfl)
  have h38 := @run_callFunc_extern Tryd.prog 38 _ (ReflectliteType.relation "AssignableTo" ReflectliteType.assignableTo) Tryd.func38 (by kernel_rfl) (by kernel_rfl) (by kernel_rfl) (by kernel_rfl)
  have h12 := @run_callFunc_extern Tryd.prog 12 _ (ReflectliteValue.method (ReflectliteValue.valueError "reflectlite.Value.Elem" 0) ReflectliteValue.elem) Tryd.func12 (by kernel_rfl) (by kernel_rfl) (by kernel_rfl) (by kernel_rfl)
  have h13 := @run_callFunc_extern Tryd.prog 13 _ ReflectliteValue.set Tryd.func13 (by kernel_rfl) (by kernel_rfl) (by kernel_rfl) (by kernel_rfl)
  have f1 := k_typeOfE
  have f2 := mAssign
  have f3 := k_assignE
  have f4 := k_valueOfE
  have lt1 : t.block < w.heap.size := lt_cell ht
  have lt2 : a.block < w.heap.size := lt_cell ha
  have f5 := k_elemV a t (w.alloc (tgtCells a)) (by rw [World.cell?_alloc_lt _ _ a lt2]; exact ha)
  have f6 := k_set t ⟨w.heap.size + 1, 0, none⟩ k old ((w.alloc (tgtCells a)).alloc (.cells #[.int .i64 k] 23))
    (by rw [World.cell?_alloc_at _ _ _ _ (by simp)]; rfl)
    (by rw [World.cell?_alloc_lt _ _ t (by simp; omega), World.cell?_alloc_lt _ _ t lt1]; exact ht)
    (by rw [World.frozen?_alloc_old _ _ t (by simp; omega), World.frozen?_alloc_old _ _ t (Nat.ne_of_lt lt1)]; exact hf)
  have g1 := k_typeOfF
  have g3 := noAs
  have g4 := hasUnwrap
  have g5 := mUnwrap
  have g2 := k_assignF
  have lt3 : b < w.heap.size := lt_cell hb
  have hb1 : (w.alloc (tgtCells a)).cell? ⟨b, 3, none⟩ = some (errnoIf k) := by rw [World.cell?_alloc_lt _ _ ⟨b, 3, none⟩ lt3]; exact hb
  go_enter Tryd.func10, Tryd.ntmps10
  go_wp2
  refine wp_loop_rounds 2 ?_
  rw [rounds_succ]
  go_wp2_with (go_at_call 32; refine (unwrap_at b _ _ hb1).mono ?_; rintro e w' ⟨rfl, rfl⟩)
  rw [rounds_succ]
  go_wp2
  go_ret
  exact ⟨rfl, rfl⟩
end Go.Proofs.YtbflokiijfomeaaDoor
