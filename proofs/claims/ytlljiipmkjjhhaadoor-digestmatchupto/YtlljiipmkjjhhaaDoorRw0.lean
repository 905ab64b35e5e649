/-
  Cells written in the middle of a block; blocks that are rows of one length, side by side.
  THE STORE: its map by ids; what a key is.
  A map by ids: each key is an id, and how many keys there are.
-/
import Derived.Test.YtlljiipmkjjhhaaDoorBase
import Derived.Deep.MidRow
import Derived.Laws.MakeOwn
import Derived.Test.YtlljiipmkjjhhaaDoorSha1
import Derived.WideKeyPair
import Derived.Maps.OwnSet
import Derived.ChangeKeys
namespace Go.Proofs.YtlljiipmkjjhhaaDoor
open Go.RowKit

def setL (cur : Array Value) : Nat → List Value → Array Value
  | _, [] => cur
  | o, v :: r => setL (cur.setIfInBounds o v) (o + 1) r
theorem setL_spec : ∀ (vs : List Value) (o : Nat) (cur : Array Value), (setL cur o vs).size = cur.size ∧ ∀ k, (setL cur o vs)[k]? = if o ≤ k ∧ k < o + vs.length ∧ k < cur.size then vs[k - o]? else cur[k]?
  | [], o, cur => ⟨rfl, fun k => by rw [if_neg (by simp only [List.length_nil]; omega)]; rfl⟩
  | v :: r, o, cur => by
    obtain ⟨h1, h2⟩ := setL_spec r (o + 1) (cur.setIfInBounds o v)
    refine ⟨by unfold setL; rw [h1]; simp, fun k => ?_⟩
    unfold setL
    rw [h2 k]
    simp only [Array.size_setIfInBounds, List.length_cons]
    by_cases hk : o = k
    · subst hk
      rw [if_neg (by omega)]
      by_cases hs : o < cur.size
      · rw [if_pos ⟨Nat.le_refl _, by omega, hs⟩]
        simp [hs]
      · rw [if_neg (by omega)]
        simp [hs]
    · by_cases hin : o + 1 ≤ k ∧ k < o + 1 + r.length ∧ k < cur.size
      · rw [if_pos hin, if_pos (by omega)]
        have e : k - o = (k - (o + 1)) + 1 := by omega
        rw [e, List.getElem?_cons_succ]
      · rw [if_neg hin, if_neg (by omega)]
        simp [hk]
theorem setCells_heap (b : Nat) (t : TypeId) : ∀ (vs : List Value) (o : Nat) (w : World) (cur : Array Value), w.heap[b]? = some (.cells cur t (0, 0)) → (w.setCells b o vs).heap[b]? = some (.cells (setL cur o vs) t (0, 0))
  | [], _, _, _, h => h
  | v :: r, o, w, cur, h => by
    unfold World.setCells setL
    exact setCells_heap b t r (o + 1) _ _ (heap_setCell_same _ _ _ _ _ _ h)
theorem Kept.setCells {S : List Nat} {a : World} (b : Nat) (hp : b ∈ S ∨ a.heap.size ≤ b) : ∀ (vs : List Value) (o : Nat) (w : World), Kept S a w → Kept S a (w.setCells b o vs)
  | [], _, _, h => h
  | v :: r, o, w, h => by
    unfold World.setCells
    exact Kept.setCells b hp r (o + 1) _ (h.setCell hp v)


theorem flat_bind (k : Nat) (hk : 0 < k) : ∀ (rows : List (List Value)), (∀ r, r ∈ rows → r.length = k) → ∀ j : Nat, rows.flatten[j]? = (rows[j / k]?).bind fun r => r[j % k]?
  | [], _, j => by simp
  | r :: rs, h, j => by
    have hr := h r (by simp)
    rw [List.flatten_cons]
    by_cases hj : j < k
    · rw [List.getElem?_append_left (by omega), Nat.div_eq_of_lt hj, Nat.mod_eq_of_lt hj]
      rfl
    · have hd : j / k = (j - k) / k + 1 := by rw [Nat.div_eq_sub_div hk (by omega)]
      have hm : j % k = (j - k) % k := Nat.mod_eq_sub_mod (by omega)
      rw [List.getElem?_append_right (by omega), hr, hd, hm, List.getElem?_cons_succ]
      exact flat_bind k hk rs (fun x hx => h x (by simp [hx])) (j - k)
theorem flat_len (k : Nat) : ∀ (rows : List (List Value)), (∀ r, r ∈ rows → r.length = k) → rows.flatten.length = rows.length * k
  | [], _ => by simp
  | r :: rs, h => by
    rw [List.flatten_cons, List.length_append, h r (by simp), flat_len k rs (fun x hx => h x (by simp [hx])), List.length_cons, Nat.succ_mul]
    omega

/-- A row of which a part is written anew. -/
def putL (r : List Value) (o : Nat) (vs : List Value) : List Value := r.take o ++ vs ++ r.drop (o + vs.length)
theorem putL_len {r : List Value} {o : Nat} {vs : List Value} (h : o + vs.length ≤ r.length) : (putL r o vs).length = r.length := by
  unfold putL
  simp only [List.length_append, List.length_take, List.length_drop]
  omega
theorem putL_get {r : List Value} {o : Nat} {vs : List Value} (h : o + vs.length ≤ r.length) (j : Nat) : (putL r o vs)[j]? = if o ≤ j ∧ j < o + vs.length then vs[j - o]? else r[j]? := by
  unfold putL
  have hl : (r.take o).length = o := by rw [List.length_take]; omega
  by_cases h1 : j < o
  · rw [if_neg (by omega), List.append_assoc, List.getElem?_append_left (by omega), List.getElem?_take_of_lt h1]
  · by_cases h2 : j < o + vs.length
    · rw [if_pos ⟨by omega, h2⟩, List.append_assoc, List.getElem?_append_right (by omega), hl, List.getElem?_append_left (by omega)]
    · rw [if_neg (by omega), List.getElem?_append_right (by simp only [List.length_append, hl]; omega), List.getElem?_drop]
      congr 1
      simp only [List.length_append, hl]
      omega
theorem rows_put (k : Nat) (hk : 0 < k) (rows : List (List Value)) (h : ∀ r, r ∈ rows → r.length = k) (i : Nat) (r : List Value) (hi : rows[i]? = some r) (o : Nat) (vs : List Value) (ho : o + vs.length ≤ k) :
    setL rows.flatten.toArray (i * k + o) vs = (rows.set i (putL r o vs)).flatten.toArray := by
  have hil : i < rows.length := (List.getElem?_eq_some_iff.1 hi).1
  have hrk := h r (List.mem_of_getElem? hi)
  have h' : ∀ x, x ∈ rows.set i (putL r o vs) → x.length = k := fun x hx => by
    rcases List.mem_or_eq_of_mem_set hx with hm | rfl
    · exact h x hm
    · rw [putL_len (by omega)]; exact hrk
  obtain ⟨s1, s2⟩ := setL_spec vs (i * k + o) rows.flatten.toArray
  apply Array.ext_getElem?
  intro j
  have e1 : (rows.set i (putL r o vs)).flatten.toArray[j]? = (rows.set i (putL r o vs)).flatten[j]? := by simp
  have e2 : rows.flatten.toArray[j]? = rows.flatten[j]? := by simp
  rw [s2 j, e1, e2, flat_bind k hk _ h', flat_bind k hk _ h, List.size_toArray, flat_len k rows h]
  have hdm := Nat.div_add_mod j k
  have hml := Nat.mod_lt j hk
  by_cases hj : j / k = i
  · have hik : k * (j / k) = i * k := by rw [hj, Nat.mul_comm]
    have hin : i * k + k ≤ rows.length * k := by
      have := Nat.mul_le_mul_right k (by omega : i + 1 ≤ rows.length)
      rw [Nat.succ_mul] at this
      exact this
    rw [hj, List.getElem?_set_self hil, hi, Option.bind_some, Option.bind_some, putL_get (by omega)]
    by_cases hc : o ≤ j % k ∧ j % k < o + vs.length
    · rw [if_pos hc, if_pos ⟨by omega, by omega, by omega⟩]
      congr 1
      omega
    · rw [if_neg hc, if_neg (by omega)]
  · rw [List.getElem?_set_ne (Ne.symm hj)]
    by_cases hc : i * k + o ≤ j ∧ j < i * k + o + vs.length ∧ j < rows.length * k
    · exfalso
      apply hj
      exact Nat.div_eq_of_lt_le (by omega) (by rw [Nat.succ_mul]; omega)
    · rw [if_neg hc]

/-- The block g is just these rows. -/
def RowsIn (w : World) (g : Nat) (t : TypeId) (rows : List (List Value)) : Prop := w.heap[g]? = some (.cells rows.flatten.toArray t (0, 0))
theorem RowsIn.kept {w w' : World} {g : Nat} {t : TypeId} {rows : List (List Value)} {T : List Nat} (h : RowsIn w g t rows) (q : Kept T w w') (hn : g ∉ T) : RowsIn w' g t rows := q.heap h hn
theorem RowsIn.range {w : World} {g : Nat} {t : TypeId} {rows : List (List Value)} (h : RowsIn w g t rows) (k : Nat) (hk : 0 < k) (hr : ∀ r, r ∈ rows → r.length = k) (i : Nat) (r : List Value) (hi : rows[i]? = some r) : w.rangeAt g (i * k) r := fun j v hj => by
  have hjl : j < k := by
    have := (List.getElem?_eq_some_iff.1 hj).1
    rw [hr r (List.mem_of_getElem? hi)] at this
    exact this
  have e : rows.flatten.toArray[i * k + j]? = rows.flatten[i * k + j]? := by simp
  rw [cell_of_row _ _ _ _ _ _ h, e, flat_bind k hk rows hr, show (i * k + j) / k = i from Nat.div_eq_of_lt_le (by omega) (by rw [Nat.succ_mul]; omega), hi, Option.bind_some, Nat.mul_comm, Nat.mul_add_mod, Nat.mod_eq_of_lt hjl]
  exact hj
theorem RowsIn.put {w : World} {g : Nat} {t : TypeId} {rows : List (List Value)} (h : RowsIn w g t rows) (k : Nat) (hk : 0 < k) (hr : ∀ r, r ∈ rows → r.length = k) (i : Nat) (r : List Value) (hi : rows[i]? = some r) (o : Nat) (vs : List Value) (ho : o + vs.length ≤ k) :
    RowsIn (w.setCells g (i * k + o) vs) g t (rows.set i (putL r o vs)) := by
  unfold RowsIn
  rw [setCells_heap g t vs _ w _ h, rows_put k hk rows hr i r hi o vs ho]
theorem RowsIn.put1 {w : World} {g : Nat} {t : TypeId} {rows : List (List Value)} (h : RowsIn w g t rows) (k : Nat) (hk : 0 < k) (hr : ∀ r, r ∈ rows → r.length = k) (i : Nat) (r : List Value) (hi : rows[i]? = some r) (o : Nat) (v : Value) (ho : o < k) :
    RowsIn (w.setCell ⟨g, i * k + o, none⟩ v) g t (rows.set i (putL r o [v])) := h.put k hk hr i r hi o [v] (by show o + 1 ≤ k; omega)
theorem RowsIn.there {w : World} {g : Nat} {t : TypeId} {rows : List (List Value)} (h : RowsIn w g t rows) (k : Nat) (hk : 0 < k) (hr : ∀ r, r ∈ rows → r.length = k) (i : Nat) (r : List Value) (hi : rows[i]? = some r) (o n : Nat) (ho : o + n ≤ k) : w.there g (i * k + o) n := fun j hj => by
  have hrk := hr r (List.mem_of_getElem? hi)
  have hR := h.range k hk hr i r hi (o + j) _ (List.getElem?_eq_getElem (by omega))
  refine ⟨?_, frozen_of_row w g _ _ _ h⟩
  rw [show i * k + o + j = i * k + (o + j) by omega, hR]
  rfl
theorem RowsIn.frozen {w : World} {g : Nat} {t : TypeId} {rows : List (List Value)} (h : RowsIn w g t rows) (i : Nat) : w.frozen? ⟨g, i, none⟩ = false := frozen_of_row w g _ _ _ h
end Go.Proofs.YtlljiipmkjjhhaaDoor

namespace Go.Proofs.YtlljiipmkjjhhaaDoor
open Go.RowKit Go.WideMaps

theorem u8_lit {x : Int} (h0 : 0 ≤ x) (h1 : x ≤ 255) : (Lit.int .u8 x).wf = true := by
  have e1 : IntKind.u8.min = 0 := rfl
  have e2 : IntKind.u8.max = 255 := rfl
  simp only [Lit.wf, Bool.and_eq_true, decide_eq_true_eq, e1, e2]
  omega
/-- An id as a map's key. -/
def idKey (xs : List Int) : Lit := .string (keyBytes (xs.map (Lit.int .u8)))
end Go.Proofs.YtlljiipmkjjhhaaDoor

namespace Go.Proofs.YtlljiipmkjjhhaaDoor
open Go.RowKit Go.WideMaps

theorem alike_ints : ∀ xs ys : List Int, xs.length = ys.length → Alike (xs.map (Lit.int .u8)) (ys.map (Lit.int .u8))
  | [], [], _ => trivial
  | [], _ :: _, h => by simp at h
  | _ :: _, [], h => by simp at h
  | _ :: xs, _ :: ys, h => ⟨rfl, alike_ints xs ys (by simpa using h)⟩
theorem idKey_inj {xs ys : List Int} (hx : GoodID xs) (hy : GoodID ys) (h : idKey xs = idKey ys) : xs = ys := by
  unfold idKey at h
  injection h with h
  have wf : ∀ zs : List Int, GoodID zs → ∀ a, a ∈ zs.map (Lit.int .u8) → a.keyWf := fun zs hz a ha => by
    obtain ⟨x, hx, rfl⟩ := List.mem_map.1 ha
    exact u8_lit (hz.2 x hx).1 (hz.2 x hx).2
  have h1 := keyBytes_inj (alike_ints xs ys (hx.1.trans hy.1.symm)) (wf xs hx) (wf ys hy) h
  exact List.map_inj_right (fun a b hab => by injection hab) |>.1 h1
end Go.Proofs.YtlljiipmkjjhhaaDoor
