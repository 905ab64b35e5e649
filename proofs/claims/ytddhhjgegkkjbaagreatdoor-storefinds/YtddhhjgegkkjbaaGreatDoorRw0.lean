/-
  Cells written in the middle of a block; blocks that are rows of one length, side by side.
  THE STORE: its map by ids; what a key is.
  THE STORE in memory: a block with a map by ids, lists of bytes of its own behind them.
  A map by ids: each key is an id, and how many keys there are.
-/
import Derived.Test.YtddhhjgegkkjbaaGreatDoorPlain
import Derived.Deep.MidRow
import Derived.Laws.MakeOwn
import Derived.Test.YtddhhjgegkkjbaaGreatDoorSha2
import Derived.WideKeyPair
import Derived.Maps.OwnSet
import Derived.ChangeKeys
namespace Go.Proofs.YtddhhjgegkkjbaaGreatDoor
open Go.RowKit

def setL (cur : Array Value) : Nat → List Value → Array Value
  | _, [] => cur
  | o, v :: r => setL (cur.setIfInBounds o v) (o + 1) r
theorem setL_spec : ∀ (vs : List Value) (o : Nat) (cur : Array Value), (setL cur o vs).size = cur.size ∧ ∀ k, (setL cur o vs)[k]? = if o ≤ k ∧ k < o + vs.length ∧ k < cur.size then vs[k - o]? else cur[k]?
  | [], o, cur => ⟨rfl, fun k => by rw [if_neg (by simp only [List.length_nil]; omega)]; rfl⟩
  | v :: r, o, cur => by
    obtain ⟨h1, h2⟩ := setL_spec r (o + 1) (cur.setIfInBounds o v)
    refine ⟨by unfold setL; rw [h1]; simp, fun k => ?_⟩
    unfold setL
    rw [h2 k]
    simp only [Array.size_setIfInBounds, List.length_cons]
    by_cases hk : o = k
    · subst hk
      rw [if_neg (by omega)]
      by_cases hs : o < cur.size
      · rw [if_pos ⟨Nat.le_refl _, by omega, hs⟩]
        simp [hs]
      · rw [if_neg (by omega)]
        simp [hs]
    · by_cases hin : o + 1 ≤ k ∧ k < o + 1 + r.length ∧ k < cur.size
      · rw [if_pos hin, if_pos (by omega)]
        have e : k - o = (k - (o + 1)) + 1 := by omega
        rw [e, List.getElem?_cons_succ]
      · rw [if_neg hin, if_neg (by omega)]
        simp [hk]
theorem setCells_heap (b : Nat) (t : TypeId) : ∀ (vs : List Value) (o : Nat) (w : World) (cur : Array Value), w.heap[b]? = some (.cells cur t (0, 0)) → (w.setCells b o vs).heap[b]? = some (.cells (setL cur o vs) t (0, 0))
  | [], _, _, _, h => h
  | v :: r, o, w, cur, h => by
    unfold World.setCells setL
    exact setCells_heap b t r (o + 1) _ _ (heap_setCell_same _ _ _ _ _ _ h)
theorem Kept.setCells {S : List Nat} {a : World} (b : Nat) (hp : b ∈ S ∨ a.heap.size ≤ b) : ∀ (vs : List Value) (o : Nat) (w : World), Kept S a w → Kept S a (w.setCells b o vs)
  | [], _, _, h => h
  | v :: r, o, w, h => by
    unfold World.setCells
    exact Kept.setCells b hp r (o + 1) _ (h.setCell hp v)


theorem flat_bind (k : Nat) (hk : 0 < k) : ∀ (rows : List (List Value)), (∀ r, r ∈ rows → r.length = k) → ∀ j : Nat, rows.flatten[j]? = (rows[j / k]?).bind fun r => r[j % k]?
  | [], _, j => by simp
  | r :: rs, h, j => by
    have hr := h r (by simp)
    rw [List.flatten_cons]
    by_cases hj : j < k
    · rw [List.getElem?_append_left (by omega), Nat.div_eq_of_lt hj, Nat.mod_eq_of_lt hj]
      rfl
    · have hd : j / k = (j - k) / k + 1 := by rw [Nat.div_eq_sub_div hk (by omega)]
      have hm : j % k = (j - k) % k := Nat.mod_eq_sub_mod (by omega)
      rw [List.getElem?_append_right (by omega), hr, hd, hm, List.getElem?_cons_succ]
      exact flat_bind k hk rs (fun x hx => h x (by simp [hx])) (j - k)
theorem flat_len (k : Nat) : ∀ (rows : List (List Value)), (∀ r, r ∈ rows → r.length = k) → rows.flatten.length = rows.length * k
  | [], _ => by simp
  | r :: rs, h => by
    rw [List.flatten_cons, List.length_append, h r (by simp), flat_len k rs (fun x hx => h x (by simp [hx])), List.length_cons, Nat.succ_mul]
    omega

/-- A row of which a part is written anew. -/
def putL (r : List Value) (o : Nat) (vs : List Value) : List Value := r.take o ++ vs ++ r.drop (o + vs.length)
theorem putL_len {r : List Value} {o : Nat} {vs : List Value} (h : o + vs.length ≤ r.length) : (putL r o vs).length = r.length := by
  unfold putL
  simp only [List.length_append, List.length_take, List.length_drop]
  omega
theorem putL_get {r : List Value} {o : Nat} {vs : List Value} (h : o + vs.length ≤ r.length) (j : Nat) : (putL r o vs)[j]? = if o ≤ j ∧ j < o + vs.length then vs[j - o]? else r[j]? := by
  unfold putL
  have hl : (r.take o).length = o := by rw [List.length_take]; omega
  by_cases h1 : j < o
  · rw [if_neg (by omega), List.append_assoc, List.getElem?_append_left (by omega), List.getElem?_take_of_lt h1]
  · by_cases h2 : j < o + vs.length
    · rw [if_pos ⟨by omega, h2⟩, List.append_assoc, List.getElem?_append_right (by omega), hl, List.getElem?_append_left (by omega)]
    · rw [if_neg (by omega), List.getElem?_append_right (by simp only [List.length_append, hl]; omega), List.getElem?_drop]
      congr 1
      simp only [List.length_append, hl]
      omega
theorem rows_put (k : Nat) (hk : 0 < k) (rows : List (List Value)) (h : ∀ r, r ∈ rows → r.length = k) (i : Nat) (r : List Value) (hi : rows[i]? = some r) (o : Nat) (vs : List Value) (ho : o + vs.length ≤ k) :
    setL rows.flatten.toArray (i * k + o) vs = (rows.set i (putL r o vs)).flatten.toArray := by
  have hil : i < rows.length := (List.getElem?_eq_some_iff.1 hi).1
  have hrk := h r (List.mem_of_getElem? hi)
  have h' : ∀ x, x ∈ rows.set i (putL r o vs) → x.length = k := fun x hx => by
    rcases List.mem_or_eq_of_mem_set hx with hm | rfl
    · exact h x hm
    · rw [putL_len (by omega)]; exact hrk
  obtain ⟨s1, s2⟩ := setL_spec vs (i * k + o) rows.flatten.toArray
  apply Array.ext_getElem?
  intro j
  have e1 : (rows.set i (putL r o vs)).flatten.toArray[j]? = (rows.set i (putL r o vs)).flatten[j]? := by simp
  have e2 : rows.flatten.toArray[j]? = rows.flatten[j]? := by simp
  rw [s2 j, e1, e2, flat_bind k hk _ h', flat_bind k hk _ h, List.size_toArray, flat_len k rows h]
  have hdm := Nat.div_add_mod j k
  have hml := Nat.mod_lt j hk
  by_cases hj : j / k = i
  · have hik : k * (j / k) = i * k := by rw [hj, Nat.mul_comm]
    have hin : i * k + k ≤ rows.length * k := by
      have := Nat.mul_le_mul_right k (by omega : i + 1 ≤ rows.length)
      rw [Nat.succ_mul] at this
      exact this
    rw [hj, List.getElem?_set_self hil, hi, Option.bind_some, Option.bind_some, putL_get (by omega)]
    by_cases hc : o ≤ j % k ∧ j % k < o + vs.length
    · rw [if_pos hc, if_pos ⟨by omega, by omega, by omega⟩]
      congr 1
      omega
    · rw [if_neg hc, if_neg (by omega)]
  · rw [List.getElem?_set_ne (Ne.symm hj)]
    by_cases hc : i * k + o ≤ j ∧ j < i * k + o + vs.length ∧ j < rows.length * k
    · exfalso
      apply hj
      exact Nat.div_eq_of_lt_le (by omega) (by rw [Nat.succ_mul]; omega)
    · rw [if_neg hc]

/-- The block g is just these rows. -/
def RowsIn (w : World) (g : Nat) (t : TypeId) (rows : List (List Value)) : Prop := w.heap[g]? = some (.cells rows.flatten.toArray t (0, 0))
theorem RowsIn.kept {w w' : World} {g : Nat} {t : TypeId} {rows : List (List Value)} {T : List Nat} (h : RowsIn w g t rows) (q : Kept T w w') (hn : g ∉ T) : RowsIn w' g t rows := q.heap h hn
theorem RowsIn.range {w : World} {g : Nat} {t : TypeId} {rows : List (List Value)} (h : RowsIn w g t rows) (k : Nat) (hk : 0 < k) (hr : ∀ r, r ∈ rows → r.length = k) (i : Nat) (r : List Value) (hi : rows[i]? = some r) : w.rangeAt g (i * k) r := fun j v hj => by
  have hjl : j < k := by
    have := (List.getElem?_eq_some_iff.1 hj).1
    rw [hr r (List.mem_of_getElem? hi)] at this
    exact this
  have e : rows.flatten.toArray[i * k + j]? = rows.flatten[i * k + j]? := by simp
  rw [cell_of_row _ _ _ _ _ _ h, e, flat_bind k hk rows hr, show (i * k + j) / k = i from Nat.div_eq_of_lt_le (by omega) (by rw [Nat.succ_mul]; omega), hi, Option.bind_some, Nat.mul_comm, Nat.mul_add_mod, Nat.mod_eq_of_lt hjl]
  exact hj
theorem RowsIn.put {w : World} {g : Nat} {t : TypeId} {rows : List (List Value)} (h : RowsIn w g t rows) (k : Nat) (hk : 0 < k) (hr : ∀ r, r ∈ rows → r.length = k) (i : Nat) (r : List Value) (hi : rows[i]? = some r) (o : Nat) (vs : List Value) (ho : o + vs.length ≤ k) :
    RowsIn (w.setCells g (i * k + o) vs) g t (rows.set i (putL r o vs)) := by
  unfold RowsIn
  rw [setCells_heap g t vs _ w _ h, rows_put k hk rows hr i r hi o vs ho]
theorem RowsIn.put1 {w : World} {g : Nat} {t : TypeId} {rows : List (List Value)} (h : RowsIn w g t rows) (k : Nat) (hk : 0 < k) (hr : ∀ r, r ∈ rows → r.length = k) (i : Nat) (r : List Value) (hi : rows[i]? = some r) (o : Nat) (v : Value) (ho : o < k) :
    RowsIn (w.setCell ⟨g, i * k + o, none⟩ v) g t (rows.set i (putL r o [v])) := h.put k hk hr i r hi o [v] (by show o + 1 ≤ k; omega)
theorem RowsIn.there {w : World} {g : Nat} {t : TypeId} {rows : List (List Value)} (h : RowsIn w g t rows) (k : Nat) (hk : 0 < k) (hr : ∀ r, r ∈ rows → r.length = k) (i : Nat) (r : List Value) (hi : rows[i]? = some r) (o n : Nat) (ho : o + n ≤ k) : w.there g (i * k + o) n := fun j hj => by
  have hrk := hr r (List.mem_of_getElem? hi)
  have hR := h.range k hk hr i r hi (o + j) _ (List.getElem?_eq_getElem (by omega))
  refine ⟨?_, frozen_of_row w g _ _ _ h⟩
  rw [show i * k + o + j = i * k + (o + j) by omega, hR]
  rfl
theorem RowsIn.frozen {w : World} {g : Nat} {t : TypeId} {rows : List (List Value)} (h : RowsIn w g t rows) (i : Nat) : w.frozen? ⟨g, i, none⟩ = false := frozen_of_row w g _ _ _ h
theorem made_rows (z : List Value) (k n : Nat) (hk : 0 < k) (hz : z.length = k) : madeCells z.toArray (n * k) = (List.replicate n z).flatten.toArray := by
  apply Array.ext_getElem?
  intro j
  have e : (List.replicate n z).flatten.toArray[j]? = (List.replicate n z).flatten[j]? := by simp
  rw [e, flat_bind k hk _ (fun r hr => by rw [(List.mem_replicate.1 hr).2]; exact hz)]
  unfold madeCells
  rw [Array.getElem?_map]
  have hml := Nat.mod_lt j hk
  by_cases hj : j < n * k
  · have hd : j / k < n := Nat.div_lt_of_lt_mul (by rw [Nat.mul_comm]; exact hj)
    rw [List.getElem?_replicate, if_pos hd, Option.bind_some]
    simp [hj, hz, hml]
  · have hd : ¬ j / k < n := fun h => hj (by
      have h1 := Nat.div_add_mod j k
      have h2 : k * (j / k) + k ≤ k * n := by rw [← Nat.mul_succ]; exact Nat.mul_le_mul_left k h
      rw [Nat.mul_comm n k]
      omega)
    rw [List.getElem?_replicate, if_neg hd]
    simp [hj]
end Go.Proofs.YtddhhjgegkkjbaaGreatDoor

namespace Go.Proofs.YtddhhjgegkkjbaaGreatDoor
open Go.RowKit Go.WideMaps

theorem Tryz.arrId : ArrKey Tryz.prog 36 5 32 := ⟨Tryz.underlying36, by kernel_rfl, by kernel_rfl, by kernel_rfl⟩
theorem Tryz.typesPos : ∃ m, Tryz.prog.types.size = m + 1 := ⟨Tryz.prog.types.size - 1, by kernel_rfl⟩
theorem Tryz.keyId : Maps.Keyed Tryz.prog 36 := Maps.Keyed.of_law Tryz.arrId.law
theorem u8_lit {x : Int} (h0 : 0 ≤ x) (h1 : x ≤ 255) : (Lit.int .u8 x).wf = true := by
  have e1 : IntKind.u8.min = 0 := rfl
  have e2 : IntKind.u8.max = 255 := rfl
  simp only [Lit.wf, Bool.and_eq_true, decide_eq_true_eq, e1, e2]
  omega
theorem mapM_some {α β : Type} {f : α → Option β} {g : α → β} : ∀ l : List α, (∀ x, x ∈ l → f x = some (g x)) → l.mapM f = some (l.map g)
  | [], _ => rfl
  | a :: l, h => by
    rw [List.mapM_cons, h a (by simp), mapM_some l (fun x hx => h x (by simp [hx]))]
    rfl
/-- An id as a map's key. -/
def idKey (xs : List Int) : Lit := .string (keyBytes (xs.map (Lit.int .u8)))
theorem key_id {xs : List Int} (h : GoodID xs) : keyOf Tryz.prog 36 (.agg (idC xs)) = some (idKey xs) := by
  have A := Tryz.arrId
  have hkt := A.keyType Tryz.typesPos
  obtain ⟨m, hm⟩ := Tryz.typesPos
  have hsz : (idC xs).size = 32 := idC_size h.1
  unfold keyOf
  simp only [A.hu]
  rw [if_pos (by simp [hkt, Value.formed, A.hu, A.size, hsz]), hm]
  unfold Program.keyLits
  simp only [A.hu, Value.cells]
  rw [if_pos (by rw [A.size]; simpa using hsz)]
  have hel : ∀ i, i ∈ List.range 32 → Tryz.prog.keyLits (m + 1) 5 (((idC xs).toList.drop (i * Tryz.prog.cellsOf 5)).take (Tryz.prog.cellsOf 5)) = some [Lit.int .u8 (xs[i]?.getD 0)] := fun i hi => by
    have hi2 : i < xs.length := by rw [h.1]; simpa using hi
    have hb := h.2 xs[i] (List.getElem_mem hi2)
    rw [A.one, Nat.mul_one]
    have e : ((idC xs).toList.drop i).take 1 = [.int .u8 xs[i]] := by
      unfold idC
      rw [List.toList_toArray, List.drop_eq_getElem_cons (by rw [List.length_map]; exact hi2)]
      simp
    rw [e, List.getElem?_eq_getElem hi2]
    unfold Program.keyLits
    simp [Tryz.underlying5, u8_lit hb.1 hb.2]
  rw [mapM_some _ hel]
  refine congrArg (fun ls => some (Lit.string (keyBytes ls))) (?_ : ((List.range 32).map fun i => [Lit.int .u8 (xs[i]?.getD 0)]).flatten = xs.map (Lit.int .u8))
  refine List.ext_getElem? fun i => ?_
  have e2 : ((List.range 32).map fun i => [Lit.int .u8 (xs[i]?.getD 0)]).flatten = (List.range 32).map fun i => Lit.int .u8 (xs[i]?.getD 0) := by
    generalize List.range 32 = l
    induction l with
    | nil => rfl
    | cons a l ih => simp [ih]
  rw [e2, List.getElem?_map, List.getElem?_map]
  by_cases hi : i < 32
  · have hi2 : i < xs.length := by rw [h.1]; exact hi
    rw [List.getElem?_range hi, Option.map_some, List.getElem?_eq_getElem hi2]
    rfl
  · rw [List.getElem?_eq_none (by simp; omega), List.getElem?_eq_none (by rw [h.1]; omega)]
    rfl

/-- How a list that the store keeps is read. -/
def slD (g n c : Nat) : DataW Unit := .agg [.lit (.int .i64 g), .lit (.int .i64 n), .lit (.int .i64 c)]
def slR : Value → Option (DataW Unit × List MemPlace)
  | .slice (some ⟨g, 0, none⟩) n c => some (slD g n c, [])
  | .slice none 0 0 => some (.nil, [])
  | _ => none
theorem slR_mk (g n c : Nat) : slR (.slice (some ⟨g, 0, none⟩) n c) = some (slD g n c, []) := rfl
theorem slR_nil : slR (.slice none 0 0) = some (.nil, []) := rfl
theorem slR_inv {v : Value} {g n c : Nat} {ps : List MemPlace} (h : slR v = some (slD g n c, ps)) : v = .slice (some ⟨g, 0, none⟩) n c := by
  unfold slR at h
  split at h
  · rename_i g' n' c'
    simp only [Option.some.injEq, Prod.mk.injEq, slD, DataW.agg.injEq, List.cons.injEq, DataW.lit.injEq, Lit.int.injEq, and_true, true_and] at h
    obtain ⟨⟨h1, h2, h3⟩, _⟩ := h
    obtain rfl : g' = g := by omega
    obtain rfl : n' = n := by omega
    obtain rfl : c' = c := by omega
    rfl
  · simp [slD] at h
  · cases h
end Go.Proofs.YtddhhjgegkkjbaaGreatDoor

namespace Go.Proofs.YtddhhjgegkkjbaaGreatDoor
open Go.RowKit Go.WideMaps

/-- The store in block s: its map in block b reads as D, of at most n entries. -/
structure St (w : World) (s b n : Nat) (D : DataW Unit) : Prop where
  blk : w.heap[s]? = some (.cells #[.map (some b)] 71 (0, 0))
  own : w.ownsMap Tryz.prog 36 slR b n D
  ne : s ≠ b
  lists : ∀ kl, Maps.has D kl = true → ∃ g c xs, D.atKey kl .nil = slD g xs.length c ∧ g ≠ b ∧ Octs xs ∧ xs.length ≤ 65536 ∧ BytesAt w (.slice (some ⟨g, 0, none⟩) xs.length c) xs
theorem idKey_lit (xs : List Int) : WideAt.IsKeyLit (idKey xs) := by
  unfold idKey
  trivial
section
variable {w w' : World} {s b n : Nat} {D : DataW Unit}
theorem St.on (h : St w s b n D) (k : Kept [] w w') : St w' s b n D := by
  obtain ⟨es, clock, hh, rest⟩ := h.own
  refine ⟨k.heap h.blk (by simp), ⟨es, clock, k.heap hh (by simp), rest⟩, h.ne, fun kl hk => ?_⟩
  obtain ⟨g, c, xs, h1, h2, h3, h4, h5⟩ := h.lists kl hk
  exact ⟨g, c, xs, h1, h2, h3, h4, h5.kept' k (fun _ _ _ => by simp)⟩
theorem St.lt (h : St w s b n D) : s < w.heap.size ∧ b < w.heap.size := ⟨(Array.getElem?_eq_some_iff.1 h.blk).1, h.own.lt⟩
theorem St.size (h : St w s b n D) : Maps.size D ≤ n := h.own.size_le
theorem Tryz.zeroB (w : World) : (zeroValue 37).run Tryz.prog w = .ok (.slice none 0 0) w := by kernel_rfl
/-- 'm[id]' with its ok. -/
theorem St.look (h : St w s b n D) {id : List Int} (hid : GoodID id) : ∃ v, (Instr.lookup 69 (.map (some b)) (.agg (idC id)) true).run Tryz.prog w = .ok (.tuple #[v, .bool (Maps.has D (idKey id))]) w ∧
    (Maps.has D (idKey id) = false → v = .slice none 0 0) ∧ (Maps.has D (idKey id) = true → ∃ g c xs, v = .slice (some ⟨g, 0, none⟩) xs.length c ∧ g ≠ b ∧ Octs xs ∧ xs.length ≤ 65536 ∧ BytesAt w (.slice (some ⟨g, 0, none⟩) xs.length c) xs) := by
  obtain ⟨v, ps, hrun, hv⟩ := h.own.look_ok Tryz.keyId Tryz.underlying69 (Tryz.zeroB w) slR_nil (key_id hid)
  refine ⟨v, hrun, fun hn => ?_, fun hy => ?_⟩
  · rw [Maps.atKey_of_not_has hn] at hv
    unfold slR at hv
    split at hv
    · simp [slD] at hv
    · rfl
    · cases hv
  · obtain ⟨g, c, xs, h1, h2, h3, h4, h5⟩ := h.lists _ hy
    rw [h1] at hv
    exact ⟨g, c, xs, slR_inv hv, h2, h3, h4, h5⟩
/-- 'm[id] = list', the list being new memory. -/
theorem St.put (h : St w s b n D) {id : List Int} (hid : GoodID id) (hn : n ≤ 1000000) {g c : Nat} {xs : List Int} (hg : g ≠ b) (ho : Octs xs) (hl : xs.length ≤ 65536) (hb : BytesAt w (.slice (some ⟨g, 0, none⟩) xs.length c) xs) :
    ∃ w', (Instr.mapUpdate 69 (.map (some b)) (.agg (idC id)) (.slice (some ⟨g, 0, none⟩) xs.length c)).run Tryz.prog w = .ok () w' ∧ St w' s b (n + 1) (D.put (idKey id) (slD g xs.length c)) ∧ Kept [b] w w' := by
  obtain ⟨w', hrun, hown, htu⟩ := h.own.store Tryz.keyId Tryz.underlying69 (by unfold maxLen; omega) (key_id hid) (slR_mk g xs.length c)
  have hk : Kept [b] w w' := (Kept.refl _ _).grown htu.grown (fun k hk => Or.inl (by simpa using hk.symm))
  refine ⟨w', hrun, ⟨hk.heap h.blk (by simp; exact h.ne), hown, h.ne, fun kl hy => ?_⟩, hk⟩
  by_cases e : kl = idKey id
  · subst e
    exact ⟨g, c, xs, Maps.atKey_put_same h.own.isMap (idKey_lit id) _ _, hg, ho, hl, hb.kept' hk (fun _ x hx hm => by
      obtain rfl : g = x := by simpa [blkOf] using hx
      exact hg (by simpa using hm))⟩
  · rw [Maps.has_put_other e] at hy
    obtain ⟨g', c', xs', h1, h2, h3, h4, h5⟩ := h.lists kl hy
    exact ⟨g', c', xs', by rw [Maps.atKey_put_other e]; exact h1, h2, h3, h4, h5.kept' hk (fun _ x hx hm => by
      obtain rfl : g' = x := by simpa [blkOf] using hx
      exact h2 (by simpa using hm))⟩
/-- 'delete(m, id)'. -/
theorem St.del (h : St w s b n D) {id : List Int} (hid : GoodID id) (ty : TypeId) :
    ∃ w', (Builtin.delete_ #[69, 36] ty #[.map (some b), .agg (idC id)]).run Tryz.prog w = .ok (.tuple #[]) w' ∧ St w' s b n (D.del (idKey id)) ∧ Kept [b] w w' := by
  obtain ⟨w', hrun, hown, htu⟩ := h.own.drop Tryz.keyId Tryz.underlying69 (key_id hid) ty
  have hk : Kept [b] w w' := (Kept.refl _ _).grown htu.grown (fun k hk => Or.inl (by simpa using hk.symm))
  refine ⟨w', hrun, ⟨hk.heap h.blk (by simp; exact h.ne), hown, h.ne, fun kl hy => ?_⟩, hk⟩
  by_cases e : kl = idKey id
  · subst e
    rw [Maps.has_del_same] at hy
    cases hy
  · rw [Maps.has_del_other e] at hy
    obtain ⟨g', c', xs', h1, h2, h3, h4, h5⟩ := h.lists kl hy
    exact ⟨g', c', xs', by rw [Maps.atKey_del_other e]; exact h1, h2, h3, h4, h5.kept' hk (fun _ x hx hm => by
      obtain rfl : g' = x := by simpa [blkOf] using hx
      exact h2 (by simpa using hm))⟩
end
end Go.Proofs.YtddhhjgegkkjbaaGreatDoor

namespace Go.Proofs.YtddhhjgegkkjbaaGreatDoor
open Go.RowKit Go.WideMaps

theorem mapM_all {α β : Type} {f : α → Option β} : ∀ {l : List α} {r : List β}, l.mapM f = some r → ∀ x, x ∈ l → ∃ y, f x = some y
  | [], _, _, _, hx => by cases hx
  | a :: l, r, h, x, hx => by
    rw [List.mapM_cons] at h
    cases ha : f a with
    | none => rw [ha] at h; cases h
    | some y =>
      rw [ha] at h
      cases hl : l.mapM f with
      | none => rw [hl] at h; cases h
      | some ys =>
        rcases List.mem_cons.1 hx with rfl | hx
        · exact ⟨y, ha⟩
        · exact mapM_all hl x hx
def u8Of : Value → Int
  | .int _ x => x
  | _ => 0
theorem key_id_inv {key : Value} {kl : Lit} (h : keyOf Tryz.prog 36 key = some kl) : ∃ id, GoodID id ∧ key = .agg (idC id) ∧ kl = idKey id := by
  have A := Tryz.arrId
  obtain ⟨m, hm⟩ := Tryz.typesPos
  have h0 := h
  unfold keyOf at h
  simp only [A.hu] at h
  split at h
  · rename_i hc
    simp only [Bool.and_eq_true] at hc
    obtain ⟨cs, rfl⟩ : ∃ cs, key = .agg cs := by
      have hf := hc.2
      cases key <;> simp [Value.formed, A.hu] at hf
      exact ⟨_, rfl⟩
    have hsz : cs.size = 32 := by have hf := hc.2; simpa [Value.formed, A.hu, A.size] using hf
    rw [hm] at h
    obtain ⟨ls, hls, _⟩ := Option.map_eq_some_iff.1 h
    unfold Program.keyLits at hls
    simp only [A.hu, Value.cells] at hls
    rw [if_pos (by rw [A.size]; simpa using hsz)] at hls
    obtain ⟨lls, has, _⟩ := Option.map_eq_some_iff.1 hls
    have hcell : ∀ i (hi : i < cs.size), ∃ x, cs[i] = .int .u8 x ∧ 0 ≤ x ∧ x ≤ 255 := fun i hi => by
      obtain ⟨y, hy⟩ := mapM_all has i (by simp; omega)
      rw [A.one, Nat.mul_one] at hy
      have e : (cs.toList.drop i).take 1 = [cs[i]] := by
        rw [List.drop_eq_getElem_cons (by simpa using hi)]; simp
      rw [e] at hy
      unfold Program.keyLits at hy
      simp only [Tryz.underlying5] at hy
      generalize cs[i] = v at hy
      cases v <;> simp at hy
      obtain ⟨⟨rfl, hw⟩, _⟩ := hy
      refine ⟨_, rfl, ?_⟩
      have e1 : IntKind.u8.min = 0 := rfl
      have e2 : IntKind.u8.max = 255 := rfl
      simp only [Lit.wf, Bool.and_eq_true, decide_eq_true_eq, e1, e2] at hw
      exact hw
    have hid : idC (cs.toList.map u8Of) = cs := by
      apply Array.ext
      · simp [idC]
      · intro i h1 h2
        obtain ⟨x, hx, _⟩ := hcell i h2
        simp [idC, hx, u8Of]
    have hg : GoodID (cs.toList.map u8Of) := by
      refine ⟨by simpa using hsz, fun x hx => ?_⟩
      obtain ⟨v, hv, rfl⟩ := List.mem_map.1 hx
      obtain ⟨i, hi, rfl⟩ := List.getElem_of_mem hv
      obtain ⟨y, hy, hb⟩ := hcell i (by simpa using hi)
      rw [Array.getElem_toList, hy]
      exact hb
    refine ⟨cs.toList.map u8Of, hg, by rw [hid], ?_⟩
    have h1 := key_id hg
    rw [hid, h0] at h1
    injection h1
  · cases h
theorem alike_ints : ∀ xs ys : List Int, xs.length = ys.length → Alike (xs.map (Lit.int .u8)) (ys.map (Lit.int .u8))
  | [], [], _ => trivial
  | [], _ :: _, h => by simp at h
  | _ :: _, [], h => by simp at h
  | _ :: xs, _ :: ys, h => ⟨rfl, alike_ints xs ys (by simpa using h)⟩
theorem idKey_inj {xs ys : List Int} (hx : GoodID xs) (hy : GoodID ys) (h : idKey xs = idKey ys) : xs = ys := by
  unfold idKey at h
  injection h with h
  have wf : ∀ zs : List Int, GoodID zs → ∀ a, a ∈ zs.map (Lit.int .u8) → a.keyWf := fun zs hz a ha => by
    obtain ⟨x, hx, rfl⟩ := List.mem_map.1 ha
    exact u8_lit (hz.2 x hx).1 (hz.2 x hx).2
  have h1 := keyBytes_inj (alike_ints xs ys (hx.1.trans hy.1.symm)) (wf xs hx) (wf ys hy) h
  exact List.map_inj_right (fun a b hab => by injection hab) |>.1 h1
theorem nodup_le {α : Type} [DecidableEq α] : ∀ {l l' : List α}, l.Pairwise (· ≠ ·) → (∀ x, x ∈ l → x ∈ l') → l.length ≤ l'.length
  | [], _, _, _ => Nat.zero_le _
  | a :: l, l', hp, h => by
    obtain ⟨h1, h2⟩ := List.pairwise_cons.1 hp
    have ha : a ∈ l' := h a (by simp)
    have := nodup_le (l' := l'.erase a) h2 (fun x hx => (List.mem_erase_of_ne (fun e => h1 x hx e.symm)).2 (h x (by simp [hx])))
    rw [List.length_erase_of_mem ha] at this
    have hpos := List.length_pos_of_mem ha
    simp only [List.length_cons]
    omega
theorem has_mem {es : List (Lit × DataW Unit)} {k : Lit} (h : Maps.has (.map es) k = true) : k ∈ es.map (·.1) := by
  simp only [Maps.has, List.any_eq_true] at h
  obtain ⟨p, hp, hs⟩ := h
  exact List.mem_map.2 ⟨p, hp, WideAt.sameKey_eq hs⟩
theorem mem_has {es : List (Lit × DataW Unit)} (hk : ∀ p, p ∈ es → WideAt.IsKeyLit p.1) {k : Lit} (h : k ∈ es.map (·.1)) : Maps.has (.map es) k = true := by
  obtain ⟨p, hp, rfl⟩ := List.mem_map.1 h
  simp only [Maps.has, List.any_eq_true]
  exact ⟨p, hp, WideAt.sameKey_self (hk p hp)⟩
/-- A list of all keys, each once, is as long as the map. -/
theorem keys_len {w : World} {b n : Nat} {D : DataW Unit} (h : w.ownsMap Tryz.prog 36 slR b n D) (ks : List (List Int)) (hg : ∀ k, k ∈ ks → GoodID k) (hp : ks.Pairwise (· ≠ ·)) (h1 : ∀ k, k ∈ ks → Maps.has D (idKey k) = true) (h2 : ∀ kl, Maps.has D kl = true → ∃ k, k ∈ ks ∧ kl = idKey k) : ks.length = Maps.size D := by
  classical
  obtain ⟨es, rfl, hd, hk⟩ := h.entries Tryz.keyId
  have p1 : (ks.map idKey).Pairwise (· ≠ ·) := by
    rw [List.pairwise_map]
    refine List.Pairwise.imp_of_mem (fun {a c} ha hc hne e => hne (idKey_inj (hg a ha) (hg c hc) e)) hp
  have p2 : (es.map (·.1)).Pairwise (· ≠ ·) := by rw [List.pairwise_map]; exact hd
  have l1 := nodup_le p1 (l' := es.map (·.1)) (fun x hx => by
    obtain ⟨k, hk', rfl⟩ := List.mem_map.1 hx
    exact has_mem (h1 k hk'))
  have l2 := nodup_le p2 (l' := ks.map idKey) (fun x hx => by
    obtain ⟨k, hk', rfl⟩ := h2 x (mem_has hk hx)
    exact List.mem_map.2 ⟨k, hk', rfl⟩)
  simp only [List.length_map] at l1 l2
  show ks.length = es.length
  omega
end Go.Proofs.YtddhhjgegkkjbaaGreatDoor
