/-
  APPEND of one struct of k cells to a list of one's own; a list of one struct made anew.
-/
import Derived.Test.YtmjbaficdoehfaaDoorEnt4
import Derived.Test.YtmjbaficdoehfaaDoorTag2
import Derived.Maps.AppendAt
import Derived.Great.BuildSlice
import Derived.Deep.RegionLaw
namespace Go.Proofs.YtmjbaficdoehfaaDoor
open Go.RowKit

theorem step_append_k {ops : Array Oper} {o : Oper} {a : Act} {w : World} {K : Act → World → Prop} {Q : Exit → Act → World → Prop} {E : Prop} (hgd : o.guard = none) (s x : Operand) (T e : TypeId) (z : Value) (k bytes : Nat)
    (hT : Tryd.prog.underlying T = some (.slice e)) (hinfo : (Tryd.prog.info? e).map (fun i => (i.zero, i.size, i.bytes)) = some (some z, k, bytes)) (hzk : z.cells.size = k) (hk : 0 < k)
    (ho : o.op = .call { callee := .builtin .append, args := #[s, x], argTypes := #[T, T] }) {B : Nat} {v : Value} {n : Nat} {xs : List Value} (hs : a.eval s = v) (hown : w.ownsRow B e k v n xs)
    {q : Nat} {us : List Value} (hx : a.eval x = .slice (some ⟨q, 0, none⟩) 1 1) (hul : us.length = k) (hc : w.rangeAt q 0 us) (hu : ∀ u, u ∈ us → u.oneCell' = true) (hl : n ≤ 1000000) (hb : bytes ≤ 1000) (hB : B ≤ w.heap.size)
    (h : ∀ v' w', w'.ownsRow B e k v' (n + 1) (xs ++ us) → Kept v.ownBlock.toList w w' → (v'.ownBlock = v.ownBlock ∨ v'.ownBlock = some w.heap.size) → K (a.put o.dst v') w') : if Region.wanted o (yielded ops a.tmps) = true then Oper.wp Tryd.prog o a w K Q else E := by
  have hw : Region.wanted o (yielded ops a.tmps) = true := by simp [Region.wanted, hgd]
  rw [if_pos hw]
  obtain ⟨i0, hi, hez⟩ := Option.map_eq_some_iff.1 hinfo
  simp only [Prod.mk.injEq] at hez
  obtain ⟨q0, q1, q2⟩ := hez
  have hnews : ∀ j t, us[j]? = some t → w.cell? ((⟨q, 0, none⟩ : Addr).add j) = some t := fun j t ht => by
    rw [Addr.add_mid]
    exact hc j t ht
  have hmul : (n + 1) * bytes ≤ (1000000 + 1) * 1000 := Nat.mul_le_mul (by omega) hb
  obtain ⟨v', w', hr, h2, h3, _, h5⟩ := run_append_own_at (P := Tryd.prog) w B T o.type e i0 z k bytes hT hi q0 q1 q2 hzk hk v n xs hown ⟨q, 0, none⟩ 1 1 us (by rw [hul, Nat.one_mul]) hnews hu (by unfold maxLen; omega) (by omega) hB
  unfold Oper.wp execOp
  simp only [ho, resolve, invoke, builtin, Sem.run_bind, Sem.run_pure, Result.andThen_ok, List.map_toArray, List.map_cons, List.map_nil, hs, hx, hr]
  exact h v' w' h2 ((Kept.refl _ _).grown h3 fun k hk => Or.inl (by simp [hk])) h5
theorem run_build_k {t e : TypeId} {z : List Value} {k bytes : Nat} (hT : Tryd.prog.underlying t = some (.slice e)) (hinfo : (Tryd.prog.info? e).map (fun i => (i.zero, i.size, i.bytes)) = some (some (.agg z.toArray), k, bytes)) (hk : 0 < k) (hk2 : k ≤ 1000) (us : List Value) (hul : us.length = k) (W : World) :
    (Instr.buildSlice t 1 #[(0, .agg us.toArray)]).run Tryd.prog W = .ok (.slice (some ⟨W.heap.size, 0, none⟩) 1 1) (W.alloc (.cells us.toArray e)) := by
  obtain ⟨i0, hi, hez⟩ := Option.map_eq_some_iff.1 hinfo
  simp only [Prod.mk.injEq] at hez
  obtain ⟨q0, q1, q2⟩ := hez
  refine run_buildSlice W t e 1 _ us.toArray i0 (.agg z.toArray) hT hi q0 (by rw [q1]; omega) (by rw [q1]; omega) ?_
  have hsz : ((Array.range (1 * i0.size)).map ((Value.agg z.toArray).cells[· % (Value.agg z.toArray).cells.size]!)).size = k := by simp [q1]
  generalize (Array.range (1 * i0.size)).map ((Value.agg z.toArray).cells[· % (Value.agg z.toArray).cells.size]!) = C at *
  obtain ⟨C⟩ := C
  show Instr.fill (fun i => some (i * i0.size, i0.size)) C.toArray [(0, .agg us.toArray)] = some us.toArray
  have hC : C.length = k := by simpa using hsz
  rw [fill_step (fun i => some (i * i0.size, i0.size)) C.toArray 0 (.agg us.toArray) [] 0 k (by simp [q1]) (by show us.toArray.size = k; simpa using hul) (by simp [hC])]
  have e1 : (Value.agg us.toArray).cells.toList = us := rfl
  rw [e1, setL_put _ _ _ (by omega), fill_nil]
  unfold putL
  rw [List.take_zero, List.nil_append, Nat.zero_add, hul, List.drop_eq_nil_of_le (by omega), List.append_nil]
/-- Such a list, row by row. -/
theorem ownsK_rows {w : World} {B : Nat} {e : TypeId} {k : Nat} (hk : 0 < k) {v : Value} {rows : List (List Value)} (hr : ∀ r, r ∈ rows → r.length = k) (h : w.ownsRow B e k v rows.length rows.flatten) (hn : rows.length ≤ 140737488351232) : RowsAt w v k rows := by
  obtain ⟨hl, ⟨rfl, h0⟩ | ⟨g, cap, cur, rfl, hB, hg, h1, h2, h3, h4⟩⟩ := h
  · have e0 : rows = [] := by
      cases rows with
      | nil => rfl
      | cons r rs => simp at h0
    subst e0
    exact ⟨none, 0, rfl, Nat.le_refl _, fun _ => rfl, by simp, fun e => absurd rfl e⟩
  · refine ⟨_, cap, rfl, h1, fun e => by simp at e, hn, fun _ => ⟨g, 0, rfl, fun i cs hi j u hj => ?_⟩⟩
    rw [cell_of_row _ _ _ _ _ _ hg, Nat.zero_add]
    have hjk : j < k := by
      have := (List.getElem?_eq_some_iff.1 hj).1
      have := hr cs (List.mem_of_getElem? hi)
      omega
    have hi2 : i < rows.length := (List.getElem?_eq_some_iff.1 hi).1
    have e1 : rows.flatten[i * k + j]? = some u := by
      rw [flat_bind k hk rows hr, Nat.mul_comm i k, Nat.mul_add_div hk, Nat.div_eq_of_lt hjk, Nat.add_zero, hi, Nat.mul_add_mod, Nat.mod_eq_of_lt hjk]
      exact hj
    rw [← h4, List.getElem?_take_of_lt ?_] at e1
    · rw [← e1, Array.getElem?_toList]
    · have : i * k + k ≤ rows.length * k := by rw [← Nat.succ_mul]; exact Nat.mul_le_mul_right k hi2
      omega
end Go.Proofs.YtmjbaficdoehfaaDoor
