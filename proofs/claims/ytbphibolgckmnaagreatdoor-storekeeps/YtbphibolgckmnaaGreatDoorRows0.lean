/-
  WALKS: code.New and the methods of a Writer, for every Writer.
  PLAIN: a number in so many bytes, the highest first, as it is written.
  WALK: math/bits.Len64: the number of binary digits, for every number of 64 bits.
  Cells written in the middle of a block; blocks that are rows of one length, side by side.
-/
import Derived.Test.YtbphibolgckmnaaGreatDoorLookFixed
import Derived.Test.YtbphibolgckmnaaGreatDoorPlain2
import Derived.Maps.AppendAt
import Derived.Laws.AppendOwnNone
import Derived.Test.YtbphibolgckmnaaGreatDoorPlain
import Derived.Test.YtbphibolgckmnaaGreatDoorChecked
import Derived.WalkKit
import Derived.WalkSpells
import Derived.Lib.Walk
import Derived.Lib.BitFns
import Derived.Deep.Light
import Derived.Deep.MidRow
import Derived.Laws.MakeOwn
namespace Go.Proofs.YtbphibolgckmnaaGreatDoor
open Go.RowKit

/-- The Writer in block wb holds the bytes zs; S: all the memory that is its own; none of it lies below B. -/
def WAt (w : World) (wb B : Nat) (zs : List Int) (S : List Nat) : Prop :=
  ∃ ao cap, w.heap[wb]? = some (.cells #[.slice ao zs.length cap] 216 (0, 0)) ∧ w.ownsRow B 5 1 (.slice ao zs.length cap) zs.length (zs.map (Value.int .u8)) ∧
    S = wb :: (Value.slice ao zs.length cap).ownBlock.toList ∧ (Value.slice ao zs.length cap).ownBlock ≠ some wb ∧ Octs zs ∧ B ≤ wb

theorem WAt.lt {w : World} {wb B : Nat} {zs : List Int} {S : List Nat} (h : WAt w wb B zs S) : ∀ x, x ∈ S → B ≤ x ∧ x < w.heap.size := by
  obtain ⟨ao, cap, hb, ho, rfl, _, _, hB⟩ := h
  intro x hx
  rcases List.mem_cons.1 hx with rfl | hx
  · exact ⟨hB, lt_of_block hb⟩
  · exact ho.lt x (by simpa using hx)

theorem WAt.kept {w w' : World} {wb B : Nat} {zs : List Int} {S T : List Nat} (h : WAt w wb B zs S) (k : Kept T w w') (hd : ∀ x, x ∈ S → x ∉ T) : WAt w' wb B zs S := by
  obtain ⟨ao, cap, hb, ho, rfl, hne, hoc, hB⟩ := h
  refine ⟨ao, cap, k.heap hb (hd wb (by simp)), ⟨ho.1, ?_⟩, rfl, hne, hoc, hB⟩
  rcases ho.2 with hn | ⟨g, cap', cur, hv, hg, hh, rest⟩
  · exact Or.inl hn
  · refine Or.inr ⟨g, cap', cur, hv, hg, k.heap hh (hd g ?_), rest⟩
    rw [hv]; simp [Value.ownBlock]

theorem WAt.bytes {w : World} {wb B : Nat} {zs : List Int} {S : List Nat} (h : WAt w wb B zs S) : ∃ ao cap, w.cell? ⟨wb, 0, none⟩ = some (.slice ao zs.length cap) ∧ BytesAt w (.slice ao zs.length cap) zs := by
  obtain ⟨ao, cap, hb, ho, rfl, hne, hoc, hB⟩ := h
  refine ⟨ao, cap, cell_of_one hb, ?_⟩
  rcases ho.2 with ⟨hv, hn⟩ | ⟨g, cap', cur, hv, hg, hh, hnc, hcm, hcs, htk⟩
  · obtain rfl : zs = [] := List.eq_nil_of_length_eq_zero hn
    rw [hv]; exact BytesAt.nil w
  · rw [hv]
    simp only [Value.slice.injEq] at hv
    obtain ⟨rfl, _, rfl⟩ := hv
    refine ⟨_, cap, rfl, hnc, fun e => (by simp at e), fun _ => ⟨g, 0, rfl, fun i u hu => ?_⟩⟩
    have hi : i < zs.length := (List.getElem?_eq_some_iff.1 hu).1
    rw [cell_of_row w g (0 + i) _ _ _ hh, Nat.zero_add, ← Array.getElem?_toList]
    have h2 : (cur.toList.take (zs.length * 1))[i]? = cur.toList[i]? := List.getElem?_take_of_lt (by omega)
    rw [← h2, htk]
    simp [hu]

/-- What a Writer's call leaves: more bytes; its memory is its own; nothing else has turned. -/
def Wrote (w w' : World) (wb B : Nat) (zs : List Int) (S : List Nat) : Prop := ∃ S', WAt w' wb B zs S' ∧ Kept S w w' ∧ ∀ x, x ∈ S' → x ∈ S ∨ w.heap.size ≤ x

theorem Wrote.trans {w w1 w2 : World} {wb B : Nat} {us : List Int} {S S1 : List Nat} (k1 : Kept S w w1) (hS1 : ∀ x, x ∈ S1 → x ∈ S ∨ w.heap.size ≤ x) (h2 : Wrote w1 w2 wb B us S1) : Wrote w w2 wb B us S := by
  obtain ⟨S2, hw, k2, hs2⟩ := h2
  refine ⟨S2, hw, k1.trans k2 hS1, fun x hx => ?_⟩
  rcases hs2 x hx with h | h
  · exact hS1 x h
  · exact Or.inr (Nat.le_trans k1.size h)
theorem Wrote.refl {w : World} {wb B : Nat} {zs : List Int} {S : List Nat} (h : WAt w wb B zs S) : Wrote w w wb B zs S := ⟨S, h, Kept.refl _ _, fun _ hx => Or.inl hx⟩

end Go.Proofs.YtbphibolgckmnaaGreatDoor

namespace Go.Proofs.YtbphibolgckmnaaGreatDoor
open Go.RowKit

/-- A number in so many bytes, the highest first. -/
def fixedB (n : Int) (size : Nat) : List Int := (List.range size).map fun i => n / 256 ^ (size - 1 - i) % 256
theorem fixedB_len (n : Int) (size : Nat) : (fixedB n size).length = size := by simp [fixedB]
end Go.Proofs.YtbphibolgckmnaaGreatDoor

namespace Go.Proofs.YtbphibolgckmnaaGreatDoor
open Go.RowKit

theorem bitLenAux_spec : ∀ (f x : Nat), 1 ≤ x → x < 2 ^ f → 1 ≤ Lib.bitLenAux f x ∧ 2 ^ (Lib.bitLenAux f x - 1) ≤ x ∧ x < 2 ^ Lib.bitLenAux f x := by
  intro f
  induction f with
  | zero => intro x h1 h2; simp at h2; omega
  | succ f ih =>
    intro x h1 h2
    by_cases hx : x / 2 = 0
    · have : x = 1 := by omega
      subst this
      have e : Lib.bitLenAux (f + 1) 1 = 1 := by
        unfold Lib.bitLenAux
        cases f <;> simp [Lib.bitLenAux]
      rw [e]
      simp
    · have h3 := ih (x / 2) (by omega) (by rw [Nat.pow_succ] at h2; omega)
      have e : Lib.bitLenAux (f + 1) x = 1 + Lib.bitLenAux f (x / 2) := by
        conv => lhs; unfold Lib.bitLenAux
        rw [if_neg (by omega)]
      obtain ⟨t, ht⟩ : ∃ t, Lib.bitLenAux f (x / 2) = t + 1 := ⟨Lib.bitLenAux f (x / 2) - 1, by omega⟩
      rw [e, ht]
      rw [ht] at h3
      simp only [Nat.add_sub_cancel] at h3
      rw [show 1 + (t + 1) - 1 = t + 1 by omega, show 1 + (t + 1) = t + 1 + 1 by omega, Nat.pow_succ, Nat.pow_succ 2 (t + 1)]
      rw [Nat.pow_succ] at h3 ⊢
      omega
theorem bitLen_spec (x : Nat) (h1 : 1 ≤ x) (h2 : x ≤ 18446744073709551615) : 1 ≤ Lib.bitLen x ∧ 2 ^ (Lib.bitLen x - 1) ≤ x ∧ x < 2 ^ Lib.bitLen x ∧ Lib.bitLen x ≤ 64 := by
  have hp : (2 : Nat) ^ 64 = 18446744073709551616 := by decide
  have h := bitLenAux_spec 64 x h1 (by omega)
  exact ⟨h.1, h.2.1, h.2.2, Lib.bitLen_le x 64 (by decide) (by omega)⟩

end Go.Proofs.YtbphibolgckmnaaGreatDoor

namespace Go.Proofs.YtbphibolgckmnaaGreatDoor
open Go.RowKit

def setL (cur : Array Value) : Nat → List Value → Array Value
  | _, [] => cur
  | o, v :: r => setL (cur.setIfInBounds o v) (o + 1) r
theorem setL_spec : ∀ (vs : List Value) (o : Nat) (cur : Array Value), (setL cur o vs).size = cur.size ∧ ∀ k, (setL cur o vs)[k]? = if o ≤ k ∧ k < o + vs.length ∧ k < cur.size then vs[k - o]? else cur[k]?
  | [], o, cur => ⟨rfl, fun k => by rw [if_neg (by simp only [List.length_nil]; omega)]; rfl⟩
  | v :: r, o, cur => by
    obtain ⟨h1, h2⟩ := setL_spec r (o + 1) (cur.setIfInBounds o v)
    refine ⟨by unfold setL; rw [h1]; simp, fun k => ?_⟩
    unfold setL
    rw [h2 k]
    simp only [Array.size_setIfInBounds, List.length_cons]
    by_cases hk : o = k
    · subst hk
      rw [if_neg (by omega)]
      by_cases hs : o < cur.size
      · rw [if_pos ⟨Nat.le_refl _, by omega, hs⟩]
        simp [hs]
      · rw [if_neg (by omega)]
        simp [hs]
    · by_cases hin : o + 1 ≤ k ∧ k < o + 1 + r.length ∧ k < cur.size
      · rw [if_pos hin, if_pos (by omega)]
        have e : k - o = (k - (o + 1)) + 1 := by omega
        rw [e, List.getElem?_cons_succ]
      · rw [if_neg hin, if_neg (by omega)]
        simp [hk]
theorem setCells_heap (b : Nat) (t : TypeId) : ∀ (vs : List Value) (o : Nat) (w : World) (cur : Array Value), w.heap[b]? = some (.cells cur t (0, 0)) → (w.setCells b o vs).heap[b]? = some (.cells (setL cur o vs) t (0, 0))
  | [], _, _, _, h => h
  | v :: r, o, w, cur, h => by
    unfold World.setCells setL
    exact setCells_heap b t r (o + 1) _ _ (heap_setCell_same _ _ _ _ _ _ h)
theorem Kept.setCells {S : List Nat} {a : World} (b : Nat) (hp : b ∈ S ∨ a.heap.size ≤ b) : ∀ (vs : List Value) (o : Nat) (w : World), Kept S a w → Kept S a (w.setCells b o vs)
  | [], _, _, h => h
  | v :: r, o, w, h => by
    unfold World.setCells
    exact Kept.setCells b hp r (o + 1) _ (h.setCell hp v)


theorem flat_bind (k : Nat) (hk : 0 < k) : ∀ (rows : List (List Value)), (∀ r, r ∈ rows → r.length = k) → ∀ j : Nat, rows.flatten[j]? = (rows[j / k]?).bind fun r => r[j % k]?
  | [], _, j => by simp
  | r :: rs, h, j => by
    have hr := h r (by simp)
    rw [List.flatten_cons]
    by_cases hj : j < k
    · rw [List.getElem?_append_left (by omega), Nat.div_eq_of_lt hj, Nat.mod_eq_of_lt hj]
      rfl
    · have hd : j / k = (j - k) / k + 1 := by rw [Nat.div_eq_sub_div hk (by omega)]
      have hm : j % k = (j - k) % k := Nat.mod_eq_sub_mod (by omega)
      rw [List.getElem?_append_right (by omega), hr, hd, hm, List.getElem?_cons_succ]
      exact flat_bind k hk rs (fun x hx => h x (by simp [hx])) (j - k)
theorem flat_len (k : Nat) : ∀ (rows : List (List Value)), (∀ r, r ∈ rows → r.length = k) → rows.flatten.length = rows.length * k
  | [], _ => by simp
  | r :: rs, h => by
    rw [List.flatten_cons, List.length_append, h r (by simp), flat_len k rs (fun x hx => h x (by simp [hx])), List.length_cons, Nat.succ_mul]
    omega

/-- A row of which a part is written anew. -/
def putL (r : List Value) (o : Nat) (vs : List Value) : List Value := r.take o ++ vs ++ r.drop (o + vs.length)
theorem putL_len {r : List Value} {o : Nat} {vs : List Value} (h : o + vs.length ≤ r.length) : (putL r o vs).length = r.length := by
  unfold putL
  simp only [List.length_append, List.length_take, List.length_drop]
  omega
theorem putL_get {r : List Value} {o : Nat} {vs : List Value} (h : o + vs.length ≤ r.length) (j : Nat) : (putL r o vs)[j]? = if o ≤ j ∧ j < o + vs.length then vs[j - o]? else r[j]? := by
  unfold putL
  have hl : (r.take o).length = o := by rw [List.length_take]; omega
  by_cases h1 : j < o
  · rw [if_neg (by omega), List.append_assoc, List.getElem?_append_left (by omega), List.getElem?_take_of_lt h1]
  · by_cases h2 : j < o + vs.length
    · rw [if_pos ⟨by omega, h2⟩, List.append_assoc, List.getElem?_append_right (by omega), hl, List.getElem?_append_left (by omega)]
    · rw [if_neg (by omega), List.getElem?_append_right (by simp only [List.length_append, hl]; omega), List.getElem?_drop]
      congr 1
      simp only [List.length_append, hl]
      omega
theorem rows_put (k : Nat) (hk : 0 < k) (rows : List (List Value)) (h : ∀ r, r ∈ rows → r.length = k) (i : Nat) (r : List Value) (hi : rows[i]? = some r) (o : Nat) (vs : List Value) (ho : o + vs.length ≤ k) :
    setL rows.flatten.toArray (i * k + o) vs = (rows.set i (putL r o vs)).flatten.toArray := by
  have hil : i < rows.length := (List.getElem?_eq_some_iff.1 hi).1
  have hrk := h r (List.mem_of_getElem? hi)
  have h' : ∀ x, x ∈ rows.set i (putL r o vs) → x.length = k := fun x hx => by
    rcases List.mem_or_eq_of_mem_set hx with hm | rfl
    · exact h x hm
    · rw [putL_len (by omega)]; exact hrk
  obtain ⟨s1, s2⟩ := setL_spec vs (i * k + o) rows.flatten.toArray
  apply Array.ext_getElem?
  intro j
  have e1 : (rows.set i (putL r o vs)).flatten.toArray[j]? = (rows.set i (putL r o vs)).flatten[j]? := by simp
  have e2 : rows.flatten.toArray[j]? = rows.flatten[j]? := by simp
  rw [s2 j, e1, e2, flat_bind k hk _ h', flat_bind k hk _ h, List.size_toArray, flat_len k rows h]
  have hdm := Nat.div_add_mod j k
  have hml := Nat.mod_lt j hk
  by_cases hj : j / k = i
  · have hik : k * (j / k) = i * k := by rw [hj, Nat.mul_comm]
    have hin : i * k + k ≤ rows.length * k := by
      have := Nat.mul_le_mul_right k (by omega : i + 1 ≤ rows.length)
      rw [Nat.succ_mul] at this
      exact this
    rw [hj, List.getElem?_set_self hil, hi, Option.bind_some, Option.bind_some, putL_get (by omega)]
    by_cases hc : o ≤ j % k ∧ j % k < o + vs.length
    · rw [if_pos hc, if_pos ⟨by omega, by omega, by omega⟩]
      congr 1
      omega
    · rw [if_neg hc, if_neg (by omega)]
  · rw [List.getElem?_set_ne (Ne.symm hj)]
    by_cases hc : i * k + o ≤ j ∧ j < i * k + o + vs.length ∧ j < rows.length * k
    · exfalso
      apply hj
      exact Nat.div_eq_of_lt_le (by omega) (by rw [Nat.succ_mul]; omega)
    · rw [if_neg hc]

/-- The block g is just these rows. -/
def RowsIn (w : World) (g : Nat) (t : TypeId) (rows : List (List Value)) : Prop := w.heap[g]? = some (.cells rows.flatten.toArray t (0, 0))
theorem RowsIn.kept {w w' : World} {g : Nat} {t : TypeId} {rows : List (List Value)} {T : List Nat} (h : RowsIn w g t rows) (q : Kept T w w') (hn : g ∉ T) : RowsIn w' g t rows := q.heap h hn
theorem RowsIn.range {w : World} {g : Nat} {t : TypeId} {rows : List (List Value)} (h : RowsIn w g t rows) (k : Nat) (hk : 0 < k) (hr : ∀ r, r ∈ rows → r.length = k) (i : Nat) (r : List Value) (hi : rows[i]? = some r) : w.rangeAt g (i * k) r := fun j v hj => by
  have hjl : j < k := by
    have := (List.getElem?_eq_some_iff.1 hj).1
    rw [hr r (List.mem_of_getElem? hi)] at this
    exact this
  have e : rows.flatten.toArray[i * k + j]? = rows.flatten[i * k + j]? := by simp
  rw [cell_of_row _ _ _ _ _ _ h, e, flat_bind k hk rows hr, show (i * k + j) / k = i from Nat.div_eq_of_lt_le (by omega) (by rw [Nat.succ_mul]; omega), hi, Option.bind_some, Nat.mul_comm, Nat.mul_add_mod, Nat.mod_eq_of_lt hjl]
  exact hj
theorem RowsIn.put {w : World} {g : Nat} {t : TypeId} {rows : List (List Value)} (h : RowsIn w g t rows) (k : Nat) (hk : 0 < k) (hr : ∀ r, r ∈ rows → r.length = k) (i : Nat) (r : List Value) (hi : rows[i]? = some r) (o : Nat) (vs : List Value) (ho : o + vs.length ≤ k) :
    RowsIn (w.setCells g (i * k + o) vs) g t (rows.set i (putL r o vs)) := by
  unfold RowsIn
  rw [setCells_heap g t vs _ w _ h, rows_put k hk rows hr i r hi o vs ho]
theorem RowsIn.put1 {w : World} {g : Nat} {t : TypeId} {rows : List (List Value)} (h : RowsIn w g t rows) (k : Nat) (hk : 0 < k) (hr : ∀ r, r ∈ rows → r.length = k) (i : Nat) (r : List Value) (hi : rows[i]? = some r) (o : Nat) (v : Value) (ho : o < k) :
    RowsIn (w.setCell ⟨g, i * k + o, none⟩ v) g t (rows.set i (putL r o [v])) := h.put k hk hr i r hi o [v] (by show o + 1 ≤ k; omega)
theorem RowsIn.there {w : World} {g : Nat} {t : TypeId} {rows : List (List Value)} (h : RowsIn w g t rows) (k : Nat) (hk : 0 < k) (hr : ∀ r, r ∈ rows → r.length = k) (i : Nat) (r : List Value) (hi : rows[i]? = some r) (o n : Nat) (ho : o + n ≤ k) : w.there g (i * k + o) n := fun j hj => by
  have hrk := hr r (List.mem_of_getElem? hi)
  have hR := h.range k hk hr i r hi (o + j) _ (List.getElem?_eq_getElem (by omega))
  refine ⟨?_, frozen_of_row w g _ _ _ h⟩
  rw [show i * k + o + j = i * k + (o + j) by omega, hR]
  rfl
theorem RowsIn.frozen {w : World} {g : Nat} {t : TypeId} {rows : List (List Value)} (h : RowsIn w g t rows) (i : Nat) : w.frozen? ⟨g, i, none⟩ = false := frozen_of_row w g _ _ _ h
theorem made_rows (z : List Value) (k n : Nat) (hk : 0 < k) (hz : z.length = k) : madeCells z.toArray (n * k) = (List.replicate n z).flatten.toArray := by
  apply Array.ext_getElem?
  intro j
  have e : (List.replicate n z).flatten.toArray[j]? = (List.replicate n z).flatten[j]? := by simp
  rw [e, flat_bind k hk _ (fun r hr => by rw [(List.mem_replicate.1 hr).2]; exact hz)]
  unfold madeCells
  rw [Array.getElem?_map]
  have hml := Nat.mod_lt j hk
  by_cases hj : j < n * k
  · have hd : j / k < n := Nat.div_lt_of_lt_mul (by rw [Nat.mul_comm]; exact hj)
    rw [List.getElem?_replicate, if_pos hd, Option.bind_some]
    simp [hj, hz, hml]
  · have hd : ¬ j / k < n := fun h => hj (by
      have h1 := Nat.div_add_mod j k
      have h2 : k * (j / k) + k ≤ k * n := by rw [← Nat.mul_succ]; exact Nat.mul_le_mul_left k h
      rw [Nat.mul_comm n k]
      omega)
    rw [List.getElem?_replicate, if_neg hd]
    simp [hj]
end Go.Proofs.YtbphibolgckmnaaGreatDoor
