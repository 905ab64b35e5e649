/-
  WALKS: (object.blob).fault, write; object.Encode of each kind.
  What is read is good; object.read's plain part.
-/
import Derived.Test.YtmambfdfkobjgaaGreatDoorObj2
namespace Go.Proofs.YtmambfdfkobjgaaGreatDoor
open Go.RowKit

def faultB (xs : List Int) : Int := if 65536 < 1 + xs.length then 31 else 0
def encB (xs : List Int) : List Int := fixedB 1 1 ++ xs

theorem blobFault_any (v : Value) (xs : List Int) (w : World) (hv : BytesAt w v xs) (hm : xs.length ≤ 140737488351232) :
    Calls Tryz.prog 114 #[v] w fun e w' => e = .returned (.int .i64 (faultB xs)) ∧ Kept [] w w' := by
  obtain ⟨ao, cap, rfl, _⟩ := hv
  by_cases hl : 65536 < 1 + xs.length
  · have HF : Hid (faultB xs = 31) := if_pos hl
    go_enter Tryz.func114, Tryz.ntmps114
    go_wp2
    go_ret
    exact ⟨by rw [HF.out]; rfl, Kept.refl _ _⟩
  · have HF : Hid (faultB xs = 0) := if_neg hl
    go_enter Tryz.func114, Tryz.ntmps114
    go_wp2
    go_ret
    exact ⟨by rw [HF.out]; rfl, Kept.refl _ _⟩

theorem blobWrite_any (v : Value) (xs : List Int) {w : World} {wb B : Nat} {zs : List Int} {S : List Nat} (h : WAt w wb B zs S) (hBw : B ≤ w.heap.size) (hv : BytesAt w v xs) (hd : xs ≠ [] → ∀ b, blkOf v = some b → b ∉ S) (ho : Octs xs) (hz : zs.length + xs.length ≤ 100000000) :
    Calls Tryz.prog 115 #[v, .pointer (some ⟨wb, 0, none⟩)] w fun e w' => e = .returned (.tuple #[]) ∧ Wrote w w' wb B (zs ++ encB xs) S := by
  have HU0 : Hid (∀ W S', WSt w W wb B zs S S' → Calls Tryz.prog 116 #[.pointer (some ⟨wb, 0, none⟩), .int .u8 1] W fun e w' => e = .returned (.tuple #[]) ∧ Wrote W w' wb B (zs ++ fixedB 1 1) S') := fun W S' q => WU8_any q.at' (Nat.le_trans hBw q.keep.size) 1 (by decide) (by decide) (by omega)
  have HU1 : Hid (∀ W S', WSt w W wb B (zs ++ fixedB 1 1) S S' → Calls Tryz.prog 117 #[.pointer (some ⟨wb, 0, none⟩), v] W fun e w' => e = .returned (.tuple #[]) ∧ Wrote W w' wb B (zs ++ fixedB 1 1 ++ xs) S') := fun W S' q => WRaw_any q.at' (Nat.le_trans hBw q.keep.size) v xs (hv.keep q.keep hd) ho (by rw [List.length_append, fixedB_len]; omega)
  have HW0 : Hid (WSt w w wb B zs S S) := WSt.start h
  have HE : Hid (zs ++ fixedB 1 1 ++ xs = zs ++ encB xs) := List.append_assoc _ _ _
  obtain ⟨ao, cap, rfl, _⟩ := hv
  clear h hd ho
  go_enter Tryz.func115, Tryz.ntmps115
  go_wp2_with (first
    | (go_at_call 116; refine (HU0.out _ _ HW0.out).mono ?_; rintro e w1 ⟨rfl, hw1⟩
       obtain ⟨S1, hs1, _, _⟩ := HW0.out.next hw1
       have HW1 : Hid (WSt w w1 wb B (zs ++ fixedB 1 1) S S1) := hs1
       clear hs1 hw1)
    | (go_at_call 117; refine (HU1.out _ _ HW1.out).mono ?_; rintro e w2 ⟨rfl, hw2⟩
       obtain ⟨S2, hs2, _, _⟩ := HW1.out.next hw2
       have HW2 : Hid (WSt w w2 wb B (zs ++ fixedB 1 1 ++ xs) S S2) := hs2
       clear hs2 hw2))
  go_end0
  exact ⟨rfl, by rw [← HE.out]; exact HW2.out.wrote⟩

theorem kept_new {w W W' : World} {b : Nat} (h : Kept [] w W) (k : Kept [b] W W') (hb : w.heap.size ≤ b) : Kept [] w W' := h.trans k fun x hx => Or.inr (by rw [List.mem_singleton.1 hx]; exact hb)
theorem meth_blob_fault (n : Nat) (v : Value) (W : World) : (method (n + 1) 88 v "satchel/object.fault").run Tryz.prog W = .ok (114, v) W := by kernel_rfl
theorem meth_blob_write (n : Nat) (v : Value) (W : World) : (method (n + 1) 88 v "satchel/object.write").run Tryz.prog W = .ok (115, v) W := by kernel_rfl
theorem meth_blob_children (n : Nat) (v : Value) (W : World) : (method (n + 1) 88 v "satchel/object.children").run Tryz.prog W = .ok (113, v) W := by kernel_rfl
theorem meth_tree_fault (n : Nat) (v : Value) (W : World) : (method (n + 1) 89 v "satchel/object.fault").run Tryz.prog W = .ok (120, v) W := by kernel_rfl
theorem meth_tree_write (n : Nat) (v : Value) (W : World) : (method (n + 1) 89 v "satchel/object.write").run Tryz.prog W = .ok (121, v) W := by kernel_rfl
theorem meth_tree_children (n : Nat) (v : Value) (W : World) : (method (n + 1) 89 v "satchel/object.children").run Tryz.prog W = .ok (119, v) W := by kernel_rfl
theorem meth_commit_fault (n : Nat) (v : Value) (W : World) : (method (n + 1) 90 v "satchel/object.fault").run Tryz.prog W = .ok (127, v) W := by kernel_rfl
theorem meth_commit_write (n : Nat) (v : Value) (W : World) : (method (n + 1) 90 v "satchel/object.write").run Tryz.prog W = .ok (128, v) W := by kernel_rfl
theorem meth_commit_children (n : Nat) (v : Value) (W : World) : (method (n + 1) 90 v "satchel/object.children").run Tryz.prog W = .ok (126, v) W := by kernel_rfl
theorem meth_tag_fault (n : Nat) (v : Value) (W : World) : (method (n + 1) 91 v "satchel/object.fault").run Tryz.prog W = .ok (134, v) W := by kernel_rfl
theorem meth_tag_write (n : Nat) (v : Value) (W : World) : (method (n + 1) 91 v "satchel/object.write").run Tryz.prog W = .ok (135, v) W := by kernel_rfl
theorem meth_tag_children (n : Nat) (v : Value) (W : World) : (method (n + 1) 91 v "satchel/object.children").run Tryz.prog W = .ok (133, v) W := by kernel_rfl
/-- What Encode answers, of a content with this fault and these bytes. -/
def EncP (w : World) (fv : Int) (enc : List Int) (e : Ending) (w' : World) : Prop :=
  Kept [] w w' ∧ (fv ≠ 0 → e = .returned (.tuple #[.slice none 0 0, .int .i64 fv])) ∧ (fv = 0 → 65536 < enc.length → e = .returned (.tuple #[.slice none 0 0, .int .i64 31])) ∧
    (fv = 0 → enc.length ≤ 65536 → ∃ b, e = .returned (.tuple #[.slice (some ⟨b, 0, none⟩) enc.length enc.length, .int .i64 0]) ∧ w'.heap[b]? = some (.cells (enc.map (Value.int .u8)).toArray 5 (0, 0)) ∧ w.heap.size ≤ b)
end Go.Proofs.YtmambfdfkobjgaaGreatDoor

namespace Go.Proofs.YtmambfdfkobjgaaGreatDoor
open Go.RowKit

theorem take_octs (xs : List Int) (ho : Octs xs) (pl f : Nat) (kind size most : Int) : Octs (takeL xs pl f kind size most).text := by
  unfold takeL
  split
  · intro u hu; simp at hu
  · split
    · intro u hu; simp at hu
    · intro u hu
      exact ho u (List.mem_of_mem_drop (List.mem_of_mem_take (List.mem_of_mem_drop hu)))
theorem idOf_good {t : List Int} (ho : Octs t) (hl : t.length ≤ 32) : GoodID (idOf t) := ⟨idOf_len hl, fun u hu => by
  unfold idOf at hu
  rcases List.mem_append.1 hu with h | h
  · exact ho u h
  · have := List.mem_of_mem_drop h
    unfold zero32 at this
    rw [(List.mem_replicate.1 this).2]
    exact ⟨by decide, by decide⟩⟩
theorem take_text_good (xs : List Int) (ho : Octs xs) (hs : xs.length ≤ 65536) (pl f : Nat) (kind size most : Int) : GoodText (takeL xs pl f kind size most).text := ⟨take_octs xs ho pl f kind size most, Nat.le_trans (take_len xs pl f kind size most) (by omega)⟩
theorem rdEs_good (xs : List Int) (ho : Octs xs) (hs : xs.length ≤ 65536) (pl f : Nat) : ∀ k e, e ∈ (rdEs xs pl f k).1 → e.Good
  | 0, e, h => by simp [rdEs] at h
  | k + 1, e, h => by
    unfold rdEs at h
    rcases List.mem_append.1 h with h | h
    · exact rdEs_good xs ho hs pl f k e h
    · rw [List.mem_singleton.1 h]
      have hb := take_lt xs ho (rdEs xs pl f k).2.1 (rdEs xs pl f k).2.2 1
      have hb1 : (takeL xs (rdEs xs pl f k).2.1 (rdEs xs pl f k).2.2 0 ((1 : Nat) : Int) 0).n < 256 := hb.2
      have hb0 := hb.1
      exact ⟨by show -9223372036854775808 ≤ (takeL xs (rdEs xs pl f k).2.1 (rdEs xs pl f k).2.2 0 ((1 : Nat) : Int) 0).n; omega, by show (takeL xs (rdEs xs pl f k).2.1 (rdEs xs pl f k).2.2 0 ((1 : Nat) : Int) 0).n ≤ 9223372036854775807; omega, take_text_good xs ho hs _ _ _ _ _, idOf_good (take_octs xs ho _ _ _ _ _) (raw32_len _ _ _)⟩
theorem EntsAt.of_rows {w : World} {b : Nat} {es : List EntL} (h : RowsIn w b 80 (es.map EntL.row)) (hg : ∀ e, e ∈ es → e.Good) (hl : es.length ≤ 1024) : EntsAt w (.slice (some ⟨b, 0, none⟩) es.length es.length) es := by
  refine ⟨_, es.length, by rw [List.length_map], by rw [List.length_map]; exact Nat.le_refl _, fun e => (by cases e), by rw [List.length_map]; omega, fun _ => ⟨b, 0, rfl, fun i cs hi => ?_⟩⟩
  rw [Nat.zero_add]
  exact h.range 34 (by decide) (fun r hr => by
    obtain ⟨e, he, rfl⟩ := List.mem_map.1 hr
    exact EntL.row_len (hg e he).id) i cs hi
theorem take_f (xs : List Int) (ho : Octs xs) (pl f : Nat) (hf : f ≤ 4) (kind size most : Int) (hs : kind = 0 → size ≤ 8) (hm : most ≤ 18446744073709551615) : (takeL xs pl f kind size most).f ≤ 4 := by
  unfold takeL
  split
  · exact hf
  · split
    · exact (lookL_fits (xs.drop pl) kind size most (octs_drop ho pl) hs hm).f
    · exact Nat.zero_le _
theorem rdIs_good (xs : List Int) (ho : Octs xs) (pl f : Nat) : ∀ k e, e ∈ (rdIs xs pl f k).1 → GoodID e
  | 0, e, h => by simp [rdIs] at h
  | k + 1, e, h => by
    unfold rdIs at h
    rcases List.mem_append.1 h with h | h
    · exact rdIs_good xs ho pl f k e h
    · rw [List.mem_singleton.1 h]
      exact idOf_good (take_octs xs ho _ _ _ _ _) (raw32_len _ _ _)
theorem IdsAt.of_rows {w : World} {b : Nat} {ids : List (List Int)} (h : RowsIn w b 31 (ids.map idRow)) (hg : ∀ e, e ∈ ids → GoodID e) (hl : ids.length ≤ 1024) : IdsAt w (.slice (some ⟨b, 0, none⟩) ids.length ids.length) ids := by
  refine ⟨_, ids.length, rfl, Nat.le_refl _, fun e => (by cases e), by omega, fun _ => ⟨b, 0, rfl, fun i xs hi => ?_⟩⟩
  rw [Nat.zero_add]
  exact h.range 32 (by decide) (fun r hr => by
    obtain ⟨e, he, rfl⟩ := List.mem_map.1 hr
    unfold idRow
    rw [List.length_map, (hg e he).1]) i _ (by rw [List.getElem?_map, hi]; rfl)
theorem errL_ne : ∀ f : Nat, f ≠ 0 → f ≤ 4 → errL f ≠ 0
  | 0, h, _ => absurd rfl h
  | 1, _, _ => by decide
  | 2, _, _ => by decide
  | 3, _, _ => by decide
  | 4, _, _ => by decide
  | _ + 5, _, h => by omega
end Go.Proofs.YtmambfdfkobjgaaGreatDoor
