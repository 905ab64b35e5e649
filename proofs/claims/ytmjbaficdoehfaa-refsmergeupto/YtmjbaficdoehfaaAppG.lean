/-
  APPEND of one struct of k cells to a list of one's own; a list of one struct made anew.
-/
import Derived.Test.YtmjbaficdoehfaaRwsA
import Derived.Maps.AppendAt
import Derived.Great.BuildSlice
import Derived.Deep.RegionLaw
namespace Go.Proofs.Ytmjbaficdoehfaa
open Go.RowKit

theorem run_build_k {t e : TypeId} {z : List Value} {k bytes : Nat} (hT : Try.prog.underlying t = some (.slice e)) (hinfo : (Try.prog.info? e).map (fun i => (i.zero, i.size, i.bytes)) = some (some (.agg z.toArray), k, bytes)) (hk : 0 < k) (hk2 : k ≤ 1000) (us : List Value) (hul : us.length = k) (W : World) :
    (Instr.buildSlice t 1 #[(0, .agg us.toArray)]).run Try.prog W = .ok (.slice (some ⟨W.heap.size, 0, none⟩) 1 1) (W.alloc (.cells us.toArray e)) := by
  obtain ⟨i0, hi, hez⟩ := Option.map_eq_some_iff.1 hinfo
  simp only [Prod.mk.injEq] at hez
  obtain ⟨q0, q1, q2⟩ := hez
  refine run_buildSlice W t e 1 _ us.toArray i0 (.agg z.toArray) hT hi q0 (by rw [q1]; omega) (by rw [q1]; omega) ?_
  have hsz : ((Array.range (1 * i0.size)).map ((Value.agg z.toArray).cells[· % (Value.agg z.toArray).cells.size]!)).size = k := by simp [q1]
  generalize (Array.range (1 * i0.size)).map ((Value.agg z.toArray).cells[· % (Value.agg z.toArray).cells.size]!) = C at *
  obtain ⟨C⟩ := C
  show Instr.fill (fun i => some (i * i0.size, i0.size)) C.toArray [(0, .agg us.toArray)] = some us.toArray
  have hC : C.length = k := by simpa using hsz
  rw [fill_step (fun i => some (i * i0.size, i0.size)) C.toArray 0 (.agg us.toArray) [] 0 k (by simp [q1]) (by show us.toArray.size = k; simpa using hul) (by simp [hC])]
  have e1 : (Value.agg us.toArray).cells.toList = us := rfl
  rw [e1, setL_put _ _ _ (by omega), fill_nil]
  unfold putL
  rw [List.take_zero, List.nil_append, Nat.zero_add, hul, List.drop_eq_nil_of_le (by omega), List.append_nil]
theorem ownsK_on {w w' : World} {B : Nat} {e : TypeId} {k : Nat} {v : Value} {n : Nat} {xs : List Value} {T : List Nat} (h : w.ownsRow B e k v n xs) (q : Kept T w w') (hn : ∀ g, v.ownBlock = some g → g ∉ T) : w'.ownsRow B e k v n xs := by
  obtain ⟨hl, h | ⟨g, cap, cur, hv, hB, hg, h1, h2, h3, h4⟩⟩ := h
  · exact ⟨hl, Or.inl h⟩
  · refine ⟨hl, Or.inr ⟨g, cap, cur, hv, hB, q.heap hg (hn g (by rw [hv]; rfl)), h1, h2, h3, h4⟩⟩
/-- Such a list, row by row. -/
theorem ownsK_rows {w : World} {B : Nat} {e : TypeId} {k : Nat} (hk : 0 < k) {v : Value} {rows : List (List Value)} (hr : ∀ r, r ∈ rows → r.length = k) (h : w.ownsRow B e k v rows.length rows.flatten) (hn : rows.length ≤ 140737488351232) : RowsAt w v k rows := by
  obtain ⟨hl, ⟨rfl, h0⟩ | ⟨g, cap, cur, rfl, hB, hg, h1, h2, h3, h4⟩⟩ := h
  · have e0 : rows = [] := by
      cases rows with
      | nil => rfl
      | cons r rs => simp at h0
    subst e0
    exact ⟨none, 0, rfl, Nat.le_refl _, fun _ => rfl, by simp, fun e => absurd rfl e⟩
  · refine ⟨_, cap, rfl, h1, fun e => by simp at e, hn, fun _ => ⟨g, 0, rfl, fun i cs hi j u hj => ?_⟩⟩
    rw [cell_of_row _ _ _ _ _ _ hg, Nat.zero_add]
    have hjk : j < k := by
      have := (List.getElem?_eq_some_iff.1 hj).1
      have := hr cs (List.mem_of_getElem? hi)
      omega
    have hi2 : i < rows.length := (List.getElem?_eq_some_iff.1 hi).1
    have e1 : rows.flatten[i * k + j]? = some u := by
      rw [flat_bind k hk rows hr, Nat.mul_comm i k, Nat.mul_add_div hk, Nat.div_eq_of_lt hjk, Nat.add_zero, hi, Nat.mul_add_mod, Nat.mod_eq_of_lt hjk]
      exact hj
    rw [← h4, List.getElem?_take_of_lt ?_] at e1
    · rw [← e1, Array.getElem?_toList]
    · have : i * k + k ≤ rows.length * k := by rw [← Nat.succ_mul]; exact Nat.mul_le_mul_right k hi2
      omega
theorem owns_low {w : World} {B B' : Nat} {e : TypeId} {k : Nat} {v : Value} {n : Nat} {xs : List Value} (h : w.ownsRow B e k v n xs) (hb : B' ≤ B) : w.ownsRow B' e k v n xs := by
  obtain ⟨hl, h | ⟨g, cap, cur, hv, hB, hg, h1, h2, h3, h4⟩⟩ := h
  · exact ⟨hl, Or.inl h⟩
  · exact ⟨hl, Or.inr ⟨g, cap, cur, hv, by omega, hg, h1, h2, h3, h4⟩⟩
theorem range_new (w : World) (us : List Value) (e : TypeId) : (w.alloc (.cells us.toArray e)).rangeAt w.heap.size 0 us := fun j v hj => by
  rw [cell_of_row _ _ _ _ _ _ (heap_alloc_new w _), Nat.zero_add, ← Array.getElem?_toList]
  simpa using hj
theorem wpList_build_k {ops : Array Oper} {rest : List Oper} {o : Oper} {a : Act} {w : World} {Q : Exit → Act → World → Prop} (hgd : o.guard = none) {t e : TypeId} {z : List Value} {k bytes : Nat} (hT : Try.prog.underlying t = some (.slice e)) (hinfo : (Try.prog.info? e).map (fun i => (i.zero, i.size, i.bytes)) = some (some (.agg z.toArray), k, bytes)) (hk : 0 < k) (hk2 : k ≤ 1000)
    (x : Operand) (ho : o.op = .buildSlice t 1 #[(0, x)]) (us : List Value) (hx : a.eval x = .agg us.toArray) (hul : us.length = k)
    (h : wpList Try.prog ops Q rest (a.put o.dst (.slice (some ⟨w.heap.size, 0, none⟩) 1 1)) (w.alloc (.cells us.toArray e))) : wpList Try.prog ops Q (o :: rest) a w := by
  refine wpList_plain hgd fun K hK => ?_
  have hr := run_build_k hT hinfo hk hk2 us hul w
  unfold Oper.wp execOp
  simp only [ho, Sem.run_bind, Sem.run_pure, Result.andThen_ok, List.map_toArray, List.map_cons, List.map_nil, hx, hr]
  exact hK _ _ h
theorem row_at_new (w : World) (us : List Value) (e : TypeId) (k : Nat) : RowsAt (w.alloc (.cells us.toArray e)) (.slice (some ⟨w.heap.size, 0, none⟩) 1 1) k [us] := by
  refine ⟨_, 1, rfl, by simp, fun e => by simp at e, by simp, fun _ => ⟨_, 0, rfl, fun i cs hi j u hj => ?_⟩⟩
  rw [cell_of_row _ _ _ _ _ _ (heap_alloc_new w _)]
  match i with
  | 0 => simp at hi; subst hi; simpa using hj
  | i + 1 => simp at hi
end Go.Proofs.Ytmjbaficdoehfaa
