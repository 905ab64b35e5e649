/-
  WALKS: object.objectOf of a commit, of a tag; object.Parse over what object.read answers.
-/
import Derived.Test.YtolnpdigacapkaaDoorChil
namespace Go.Proofs.YtolnpdigacapkaaDoor
open Go.RowKit

def zeroO : ObjL := ⟨0, .slice none 0 0, [], .slice none 0 0, [], zeroC, .slice none 0 0, zeroG⟩
theorem Tryd.builtObj (parts : List (Nat × Value)) : Tryd.prog.built 33 parts = Instr.fill (fun i => (#[(0, 1), (1, 1), (2, 1), (3, 36), (39, 37)] : Array (Nat × Nat))[i]?) zeroO.row.toArray parts := by kernel_rfl
def comO (c : ComL) (pv : Value) : ObjL := { zeroO with kind := 3, com := c, pv := pv }
def tagO (t : TagL) : ObjL := { zeroO with kind := 4, tag := t }
theorem put0 (a b c x : Value) (R : List Value) : putL ([a, b, c] ++ R) 0 [x] = [x, b, c] ++ R := by simp [putL]
theorem put3 (a b c : Value) (Z G C : List Value) (h1 : Z.length = 36) (h2 : C.length = 36) : putL ([a, b, c] ++ (Z ++ G)) 3 C = [a, b, c] ++ (C ++ G) := by simp [putL, h1, h2]
theorem put39 (a b c : Value) (Z G T : List Value) (h1 : Z.length = 36) (h2 : T.length = 37) (h3 : G.length = 37) : putL ([a, b, c] ++ (Z ++ G)) 39 T = [a, b, c] ++ (Z ++ T) := by simp [putL, h1, h2, h3]
theorem built_comO (c : ComL) (pv : Value) (hl : c.tree.length = 32) : Tryd.prog.built 33 [(0, .int .i64 3), (3, .agg (c.row pv).toArray)] = some (comO c pv).row.toArray := by
  have hc := com_len' c pv hl
  rw [Tryd.builtObj, fill_step (fun i => (#[(0, 1), (1, 1), (2, 1), (3, 36), (39, 37)] : Array (Nat × Nat))[i]?) zeroO.row.toArray 0 (.int .i64 3) _ 0 1 rfl rfl (by decide)]
  have e1 : (Value.int .i64 3).cells.toList = [.int .i64 3] := rfl
  rw [e1, setL_put _ _ _ (by decide)]
  have e2 : putL zeroO.row 0 [.int .i64 3] = [.int .i64 3, .slice none 0 0, .slice none 0 0] ++ (zeroC.row (.slice none 0 0) ++ zeroG.row) := put0 _ _ _ _ _
  rw [e2, fill_step (fun i => (#[(0, 1), (1, 1), (2, 1), (3, 36), (39, 37)] : Array (Nat × Nat))[i]?) _ 3 (.agg (c.row pv).toArray) _ 3 36 rfl (by show (c.row pv).toArray.size = 36; rw [List.size_toArray, hc]) (by decide)]
  have e3 : (Value.agg (c.row pv).toArray).cells.toList = c.row pv := rfl
  rw [e3, setL_put _ _ _ (by rw [hc]; decide), put3 _ _ _ _ _ _ rfl hc, fill_nil]
  rfl
theorem built_tagO (t : TagL) (hl : t.target.length = 32) : Tryd.prog.built 33 [(0, .int .i64 4), (4, .agg t.row.toArray)] = some (tagO t).row.toArray := by
  have hc : t.row.length = 37 := by simp [TagL.row, hl]
  rw [Tryd.builtObj, fill_step (fun i => (#[(0, 1), (1, 1), (2, 1), (3, 36), (39, 37)] : Array (Nat × Nat))[i]?) zeroO.row.toArray 0 (.int .i64 4) _ 0 1 rfl rfl (by decide)]
  have e1 : (Value.int .i64 4).cells.toList = [.int .i64 4] := rfl
  rw [e1, setL_put _ _ _ (by decide)]
  have e2 : putL zeroO.row 0 [.int .i64 4] = [.int .i64 4, .slice none 0 0, .slice none 0 0] ++ (zeroC.row (.slice none 0 0) ++ zeroG.row) := put0 _ _ _ _ _
  rw [e2, fill_step (fun i => (#[(0, 1), (1, 1), (2, 1), (3, 36), (39, 37)] : Array (Nat × Nat))[i]?) _ 4 (.agg t.row.toArray) _ 39 37 rfl (by show t.row.toArray.size = 37; rw [List.size_toArray, hc]) (by decide)]
  have e3 : (Value.agg t.row.toArray).cells.toList = t.row := rfl
  rw [e3, setL_put _ _ _ (by rw [hc]; decide), put39 _ _ _ _ _ _ rfl hc rfl, fill_nil]
  rfl
theorem obj_len (o : ObjL) (hc : o.com.tree.length = 32) (ht : o.tag.target.length = 32) : o.row.toArray.size = 76 := by
  rw [List.size_toArray]
  unfold ObjL.row
  rw [List.length_append, List.length_append, com_len' _ _ hc, show o.tag.row.length = 37 by simp [TagL.row, ht]]
  rfl
end Go.Proofs.YtolnpdigacapkaaDoor
