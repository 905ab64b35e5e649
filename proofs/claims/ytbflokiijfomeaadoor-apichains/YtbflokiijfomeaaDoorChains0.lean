/-
  Facts on the entries of internal/reflectlite at this program's types (api.Errno, *api.Errno, *api.Fault), and contracts of errors.as and errors.As where the target is an *api.Errno: found at once; found one or two Faults down; not found at a Fault that wraps nothing.
-/
import Derived.Test.YtbflokiijfomeaaDoorProg
import Derived.WalkKit
import Derived.LaidEql
import Derived.Stop.Asserts
import Derived.RowKitTokens
namespace Go.Proofs.YtbflokiijfomeaaDoor
open Go.RowKit Go.Extern.Stop Go.Stop Go.Extern

/-- The handle of a type, as a value of reflectlite's Type. -/
abbrev hnd (t : Nat) : Value := .iface 47 (.agg #[.pointer (some ⟨1, t, none⟩)])
/-- A Value of *api.Errno whose variable lies at a. -/
abbrev tgt (a : Addr) : Value := .agg #[.pointer (some ⟨1, 33, none⟩), .pointer (some a), .int .u64 150]
abbrev tgtCells (a : Addr) : Obj := .cells #[.pointer (some ⟨1, 33, none⟩), .pointer (some a), .int .u64 150] 37

/-- A method of a Value whose parts are known. -/
theorem run_method {P : Program} {w : World} (z : Sem Value) (f : TypeId → Addr → Nat → Nat → Sem Value) (v : Value) {t : TypeId} {a : Addr} {fl : Nat}
    (h : (ReflectliteValue.parts v).run P w = .ok (some (t, a, fl)) w) : (ReflectliteValue.method z f #[v]).run P w = (f t a fl (fl % 32)).run P w := by
  show ((ReflectliteValue.parts v >>= _ : Sem Value)).run P w = _
  rw [Sem.run_bind, h]
  rfl
/-- Set where the parts of both are known, the one that is set has an address, and their types are one. -/
theorem run_set {P : Program} {w : World} (v x : Value) {t : TypeId} {a b : Addr} {fl gl : Nat} {val : Value}
    (h : (ReflectliteValue.parts v).run P w = .ok (some (t, a, fl)) w) (k : (ReflectliteValue.parts x).run P w = .ok (some (t, b, gl)) w)
    (hfl : (fl / ReflectliteValue.flagAddr % 2 == 0) = false) (hb : (loadVar t b).run P w = .ok val w) (hd : (Rtype.directlyAssignable t t).run P w = .ok true w) :
    (ReflectliteValue.set #[v, x]).run P w = ((storeVar t a val).run P w).andThen fun _ w' => .ok (.tuple #[]) w' := by
  show ((ReflectliteValue.parts v >>= _ : Sem Value)).run P w = _
  rw [Sem.run_bind, h]
  show (((ReflectliteValue.parts x >>= _ : Sem Value)).run P w) = _
  rw [Sem.run_bind, k]
  simp only [Result.andThen, hfl, Bool.false_eq_true, if_false]
  show ((loadVar t b >>= _ : Sem Value)).run P w = _
  rw [Sem.run_bind, hb]
  show ((Rtype.directlyAssignable t t >>= _ : Sem Value)).run P w = _
  rw [Sem.run_bind, hd]
  show ((storeVar t a val >>= _ : Sem Value)).run P w = _
  rw [Sem.run_bind]
  rfl

theorem k_valueOfT (t : Addr) (w : World) : (ReflectliteValue.unpack (.iface 33 (.pointer (some t)))).run Tryd.prog w
    = .ok (tgt ⟨w.heap.size, 0, none⟩) (w.alloc (.cells #[.pointer (some t)] 33)) := by kernel_rfl
theorem k_typeT (a : Addr) (w : World) : (ReflectliteValue.methodAny (ReflectliteValue.valueError "reflectlite.Value.Type" 0) (fun t _ _ _ => ReflectliteType.toType t) #[tgt a]).run Tryd.prog w
    = .ok (hnd 33) w := by kernel_rfl
theorem k_kindT (w : World) : ((ReflectliteType.abiMethod fun t => (fun a : Nat => Value.int IntKind.u8 (a : Int)) <$> Rtype.kind t) #[.pointer (some ⟨1, 33, none⟩)]).run Tryd.prog w = .ok (.int .u8 22) w := by kernel_rfl
theorem k_kindE (w : World) : ((ReflectliteType.abiMethod fun t => (fun a : Nat => Value.int IntKind.u8 (a : Int)) <$> Rtype.kind t) #[.pointer (some ⟨1, 23, none⟩)]).run Tryd.prog w = .ok (.int .u8 2) w := by kernel_rfl
theorem k_partsT (a : Addr) (w : World) : (ReflectliteValue.parts (tgt a)).run Tryd.prog w = .ok (some (33, a, 150)) w := by kernel_rfl
theorem k_isNil (a p : Addr) (W : World) (ha : W.cell? a = some (.pointer (some p))) :
    (ReflectliteValue.method (ReflectliteValue.valueError "reflectlite.Value.IsNil" 0) ReflectliteValue.isNil #[tgt a]).run Tryd.prog W = .ok (.bool false) W := by
  rw [run_method _ _ _ (k_partsT a W)]
  simp [ReflectliteValue.isNil, loadVar, isAgg, underlying, Tryd.underlying33, ha, Result.andThen]
theorem k_elemT (w : World) : (ReflectliteType.method ReflectliteType.elem #[.agg #[.pointer (some ⟨1, 33, none⟩)]]).run Tryd.prog w = .ok (hnd 23) w := by kernel_rfl
theorem k_typeOfE (v : Value) (w : World) : (ReflectliteType.typeOf #[.iface 23 v]).run Tryd.prog w = .ok (hnd 23) w := by kernel_rfl
theorem k_typeOfF (v : Value) (w : World) : (ReflectliteType.typeOf #[.iface 22 v]).run Tryd.prog w = .ok (hnd 22) w := by kernel_rfl
theorem k_assignE (w : World) : (ReflectliteType.relation "AssignableTo" ReflectliteType.assignableTo #[.agg #[.pointer (some ⟨1, 23, none⟩)], hnd 23]).run Tryd.prog w = .ok (.bool true) w := by kernel_rfl
theorem k_assignF (w : World) : (ReflectliteType.relation "AssignableTo" ReflectliteType.assignableTo #[.agg #[.pointer (some ⟨1, 22, none⟩)], hnd 23]).run Tryd.prog w = .ok (.bool false) w := by kernel_rfl
theorem k_valueOfE (k : Int) (w : World) : (ReflectliteValue.unpack (.iface 23 (.int .i64 k))).run Tryd.prog w
    = .ok (.agg #[.pointer (some ⟨1, 23, none⟩), .pointer (some ⟨w.heap.size, 0, none⟩), .int .u64 130]) (w.alloc (.cells #[.int .i64 k] 23)) := by kernel_rfl
theorem k_elemOf (w : World) : (Rtype.elem? 33).run Tryd.prog w = .ok (some 23) w := by kernel_rfl
theorem k_mkE (p : Addr) (w : World) : (ReflectliteValue.mk 23 p ReflectliteValue.flagAddr).run Tryd.prog w = .ok (.agg #[.pointer (some ⟨1, 23, none⟩), .pointer (some p), .int .u64 386]) w := by kernel_rfl
theorem k_elemV (a p : Addr) (W : World) (ha : W.cell? a = some (.pointer (some p))) :
    (ReflectliteValue.method (ReflectliteValue.valueError "reflectlite.Value.Elem" 0) ReflectliteValue.elem #[tgt a]).run Tryd.prog W
      = .ok (.agg #[.pointer (some ⟨1, 23, none⟩), .pointer (some p), .int .u64 386]) W := by
  rw [run_method _ _ _ (k_partsT a W)]
  simp [ReflectliteValue.elem, loadVar, isAgg, underlying, Tryd.underlying33, ha, Result.andThen, k_elemOf, k_mkE]
theorem k_partsA (a : Addr) (w : World) : (ReflectliteValue.parts (.agg #[.pointer (some ⟨1, 23, none⟩), .pointer (some a), .int .u64 386])).run Tryd.prog w = .ok (some (23, a, 386)) w := by kernel_rfl
theorem k_partsE (a : Addr) (w : World) : (ReflectliteValue.parts (.agg #[.pointer (some ⟨1, 23, none⟩), .pointer (some a), .int .u64 130])).run Tryd.prog w = .ok (some (23, a, 130)) w := by kernel_rfl
theorem k_direct (w : World) : (Rtype.directlyAssignable 23 23).run Tryd.prog w = .ok true w := by kernel_rfl
/-- (Value).Set: the Errno at ta gets what the Value's own variable b holds. -/
theorem k_set (ta b : Addr) (k : Int) (old : Value) (W : World) (hb : W.cell? b = some (.int .i64 k)) (ht : W.cell? ta = some old) (hf : W.frozen? ta = false) :
    (ReflectliteValue.set #[.agg #[.pointer (some ⟨1, 23, none⟩), .pointer (some ta), .int .u64 386], .agg #[.pointer (some ⟨1, 23, none⟩), .pointer (some b), .int .u64 130]]).run Tryd.prog W
      = .ok (.tuple #[]) (W.setCell ta (.int .i64 k)) := by
  have hl : (loadVar 23 b).run Tryd.prog W = .ok (.int .i64 k) W := by
    simp [loadVar, isAgg, underlying, Tryd.underlying23, hb, Result.andThen]
  rw [run_set _ _ (k_partsA ta W) (k_partsE b W) (by rfl) hl (k_direct W)]
  simp [storeVar, Value.cells, storeCells, Addr.add, Result.andThen]
  rw [run_store Tryd.prog W ta _ _ (by rfl)]
  simp [ht, hf]
end Go.Proofs.YtbflokiijfomeaaDoor
