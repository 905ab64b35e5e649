/-
  WALKS: object.Children, object.Kind, over what object.read answers.
  WALKS: object.objectOf of a commit, of a tag; object.Parse over what object.read answers.
-/
import Derived.Test.YtmambfdfkobjgaaGreatDoorReadC
import Derived.Test.YtmambfdfkobjgaaGreatDoorReadT
import Derived.Test.YtmambfdfkobjgaaGreatDoorReadG
namespace Go.Proofs.YtmambfdfkobjgaaGreatDoor
open Go.RowKit

set_option maxRecDepth 100000 in
set_option maxHeartbeats 1000000 in
theorem childrenTree (v : Value) (w : World) (es : List EntL) (hf : ∃ ao n c, v = .slice ao n c) (hg : ∀ e, e ∈ es → e.Good) (hn : es.length ≤ 1024)
    (hrd : Calls Tryz.prog 28 #[v] w fun e w' => Kept [] w w' ∧ ∃ b, e = .returned (.tuple #[.iface 89 (.slice (some ⟨b, 0, none⟩) es.length es.length), .int .i64 0]) ∧ RowsIn w' b 80 (es.map EntL.row) ∧ w.heap.size ≤ b) :
    Calls Tryz.prog 9 #[v] w fun e w' => Kept [] w w' ∧ ∃ b, e = .returned (.tuple #[.slice (some ⟨b, 0, none⟩) es.length es.length, .int .i64 0]) ∧ RowsIn w' b 52 ((es.map linkOf).map LinkL.row) ∧ w.heap.size ≤ b := by
  have hm1 := meth_tree_children
  have HC : Hid (∀ W b, RowsIn W b 80 (es.map EntL.row) → Calls Tryz.prog 119 #[.slice (some ⟨b, 0, none⟩) es.length es.length] W fun e w' => ∃ b', e = .returned (.slice (some ⟨b', 0, none⟩) es.length es.length) ∧ RowsIn w' b' 52 ((es.map linkOf).map LinkL.row) ∧ W.heap.size ≤ b' ∧ Kept [] W w') := fun W b hb => treeChildren_any _ es W (EntsAt.of_rows hb hg hn) hg hn
  obtain ⟨ao, n, c, rfl⟩ := hf
  clear hg
  go_enter Tryz.func9, Tryz.ntmps9
  go_wp2_with (first
    | (go_at_call 28; refine hrd.mono ?_; rintro e w1 ⟨hk1, b1, rfl, hr1, hb1⟩
       have HK1 : Hid (Kept [] w w1) := hk1
       have HR1 : Hid (RowsIn w1 b1 80 (es.map EntL.row)) := hr1
       clear hr1 hk1)
    | (go_at_call 119; refine (HC.out _ _ HR1.out).mono ?_; rintro e w2 ⟨b2, rfl, hr2, hb2, hk2⟩
       have HK2 : Hid (Kept [] w w2) := HK1.out.then hk2
       have HR2 : Hid (RowsIn w2 b2 52 ((es.map linkOf).map LinkL.row)) := hr2
       have hs1 := HK1.out.size
       clear hr2 hk2))
  exact bodyPost_ret (v := .tuple #[.slice (some ⟨b2, 0, none⟩) es.length es.length, .int .i64 0]) (by simp [results, Tryz.results9, go_sem]) rfl ⟨HK2.out, b2, rfl, HR2.out, by omega⟩

set_option maxRecDepth 100000 in
set_option maxHeartbeats 1000000 in
theorem childrenTag (v : Value) (w : World) (t : TagL) (hf : ∃ ao n c, v = .slice ao n c) (hg : t.Good)
    (hrd : Calls Tryz.prog 28 #[v] w fun e w' => Kept [] w w' ∧ e = .returned (.tuple #[.iface 91 (.agg t.row.toArray), .int .i64 0])) :
    Calls Tryz.prog 9 #[v] w fun e w' => Kept [] w w' ∧ ∃ b, e = .returned (.tuple #[.slice (some ⟨b, 0, none⟩) 1 1, .int .i64 0]) ∧ RowsIn w' b 52 [(LinkL.mk t.target t.kind).row] ∧ w.heap.size ≤ b := by
  have hm1 := meth_tag_children
  have HC : Hid (∀ W, Calls Tryz.prog 133 #[.agg t.row.toArray] W fun e w' => ∃ b, e = .returned (.slice (some ⟨b, 0, none⟩) 1 1) ∧ RowsIn w' b 52 [(LinkL.mk t.target t.kind).row] ∧ W.heap.size ≤ b ∧ Kept [] W w') := fun W => tagChildren_any t W hg
  obtain ⟨ao, n, c, rfl⟩ := hf
  clear hg
  generalize t.row.toArray = tr at *
  go_enter Tryz.func9, Tryz.ntmps9
  go_wp2_with (first
    | (go_at_call 28; refine hrd.mono ?_; rintro e w1 ⟨hk1, rfl⟩
       have HK1 : Hid (Kept [] w w1) := hk1
       clear hk1)
    | (go_at_call 133; refine (HC.out _).mono ?_; rintro e w2 ⟨b2, rfl, hr2, hb2, hk2⟩
       have HK2 : Hid (Kept [] w w2) := HK1.out.then hk2
       have HR2 : Hid (RowsIn w2 b2 52 [(LinkL.mk t.target t.kind).row]) := hr2
       have hs1 := HK1.out.size
       clear hr2 hk2))
  exact bodyPost_ret (v := .tuple #[.slice (some ⟨b2, 0, none⟩) 1 1, .int .i64 0]) (by simp [results, Tryz.results9, go_sem]) rfl ⟨HK2.out, b2, rfl, HR2.out, by omega⟩

set_option maxRecDepth 100000 in
set_option maxHeartbeats 1000000 in
/-- Kind of what is read: its first byte. -/
theorem kind_ok (v : Value) (xs : List Int) (w : World) (hv : BytesAt w v xs) (ho : Octs xs) (k : Int) (hx : xs[0]? = some k) (cv : Value)
    (hrd : Calls Tryz.prog 28 #[v] w fun e w' => Kept [] w w' ∧ e = .returned (.tuple #[cv, .int .i64 0])) :
    Calls Tryz.prog 12 #[v] w fun e w' => e = .returned (.int .i64 k) ∧ Kept [] w w' := by
  have hkr := ho k (List.mem_of_getElem? hx)
  have HB : Hid (∀ W, Kept [] w W → BytesAt W v xs) := fun W hW => hv.kept hW (fun _ _ => by simp)
  obtain ⟨ao, cap, rfl, hc, hnil, hcell⟩ := hv
  have hlen : 0 < xs.length := (List.getElem?_eq_some_iff.1 hx).1
  obtain ⟨b, off, rfl, hh⟩ := hcell (by rintro rfl; simp at hx)
  have c0 := hh 0 k hx
  rw [Nat.add_zero] at c0
  have HC0 : Hid (∀ W, Kept [] w W → W.cell? ⟨b, off, none⟩ = some (.int .u8 k)) := fun W hW => hW.cell c0 (by simp)
  clear hh hcell hnil ho
  go_enter Tryz.func12, Tryz.ntmps12
  go_wp2_with (go_at_call 28; refine hrd.mono ?_; rintro e w1 ⟨hk1, rfl⟩; have HK1 : Hid (Kept [] w w1) := hk1; have c1 := HC0.out w1 hk1; clear hk1)
  go_ret
  exact ⟨rfl, HK1.out⟩
end Go.Proofs.YtmambfdfkobjgaaGreatDoor

namespace Go.Proofs.YtmambfdfkobjgaaGreatDoor
open Go.RowKit

def zeroO : ObjL := ⟨0, .slice none 0 0, [], .slice none 0 0, [], zeroC, .slice none 0 0, zeroG⟩
theorem Tryz.builtObj (parts : List (Nat × Value)) : Tryz.prog.built 39 parts = Instr.fill (fun i => (#[(0, 1), (1, 1), (2, 1), (3, 36), (39, 37)] : Array (Nat × Nat))[i]?) zeroO.row.toArray parts := by kernel_rfl
def comO (c : ComL) (pv : Value) : ObjL := { zeroO with kind := 3, com := c, pv := pv }
def tagO (t : TagL) : ObjL := { zeroO with kind := 4, tag := t }
theorem put0 (a b c x : Value) (R : List Value) : putL ([a, b, c] ++ R) 0 [x] = [x, b, c] ++ R := by simp [putL]
theorem put3 (a b c : Value) (Z G C : List Value) (h1 : Z.length = 36) (h2 : C.length = 36) : putL ([a, b, c] ++ (Z ++ G)) 3 C = [a, b, c] ++ (C ++ G) := by simp [putL, h1, h2]
theorem put39 (a b c : Value) (Z G T : List Value) (h1 : Z.length = 36) (h2 : T.length = 37) (h3 : G.length = 37) : putL ([a, b, c] ++ (Z ++ G)) 39 T = [a, b, c] ++ (Z ++ T) := by simp [putL, h1, h2, h3]
theorem built_comO (c : ComL) (pv : Value) (hl : c.tree.length = 32) : Tryz.prog.built 39 [(0, .int .i64 3), (3, .agg (c.row pv).toArray)] = some (comO c pv).row.toArray := by
  have hc := com_len' c pv hl
  rw [Tryz.builtObj, fill_step (fun i => (#[(0, 1), (1, 1), (2, 1), (3, 36), (39, 37)] : Array (Nat × Nat))[i]?) zeroO.row.toArray 0 (.int .i64 3) _ 0 1 rfl rfl (by decide)]
  have e1 : (Value.int .i64 3).cells.toList = [.int .i64 3] := rfl
  rw [e1, setL_put _ _ _ (by decide)]
  have e2 : putL zeroO.row 0 [.int .i64 3] = [.int .i64 3, .slice none 0 0, .slice none 0 0] ++ (zeroC.row (.slice none 0 0) ++ zeroG.row) := put0 _ _ _ _ _
  rw [e2, fill_step (fun i => (#[(0, 1), (1, 1), (2, 1), (3, 36), (39, 37)] : Array (Nat × Nat))[i]?) _ 3 (.agg (c.row pv).toArray) _ 3 36 rfl (by show (c.row pv).toArray.size = 36; rw [List.size_toArray, hc]) (by decide)]
  have e3 : (Value.agg (c.row pv).toArray).cells.toList = c.row pv := rfl
  rw [e3, setL_put _ _ _ (by rw [hc]; decide), put3 _ _ _ _ _ _ rfl hc, fill_nil]
  rfl
theorem built_tagO (t : TagL) (hl : t.target.length = 32) : Tryz.prog.built 39 [(0, .int .i64 4), (4, .agg t.row.toArray)] = some (tagO t).row.toArray := by
  have hc : t.row.length = 37 := by simp [TagL.row, hl]
  rw [Tryz.builtObj, fill_step (fun i => (#[(0, 1), (1, 1), (2, 1), (3, 36), (39, 37)] : Array (Nat × Nat))[i]?) zeroO.row.toArray 0 (.int .i64 4) _ 0 1 rfl rfl (by decide)]
  have e1 : (Value.int .i64 4).cells.toList = [.int .i64 4] := rfl
  rw [e1, setL_put _ _ _ (by decide)]
  have e2 : putL zeroO.row 0 [.int .i64 4] = [.int .i64 4, .slice none 0 0, .slice none 0 0] ++ (zeroC.row (.slice none 0 0) ++ zeroG.row) := put0 _ _ _ _ _
  rw [e2, fill_step (fun i => (#[(0, 1), (1, 1), (2, 1), (3, 36), (39, 37)] : Array (Nat × Nat))[i]?) _ 4 (.agg t.row.toArray) _ 39 37 rfl (by show t.row.toArray.size = 37; rw [List.size_toArray, hc]) (by decide)]
  have e3 : (Value.agg t.row.toArray).cells.toList = t.row := rfl
  rw [e3, setL_put _ _ _ (by rw [hc]; decide), put39 _ _ _ _ _ _ rfl hc rfl, fill_nil]
  rfl
theorem obj_len (o : ObjL) (hc : o.com.tree.length = 32) (ht : o.tag.target.length = 32) : o.row.toArray.size = 76 := by
  rw [List.size_toArray]
  unfold ObjL.row
  rw [List.length_append, List.length_append, com_len' _ _ hc, show o.tag.row.length = 37 by simp [TagL.row, ht]]
  rfl
end Go.Proofs.YtmambfdfkobjgaaGreatDoor
