/-
  WALKS: satchellaw14's rules, texts.
-/
import Derived.Test.YtmjbaficdoehfaaDoorRm14
namespace Go.Proofs.YtmjbaficdoehfaaDoor
open Go.RowKit

theorem wpList_build_k {ops : Array Oper} {rest : List Oper} {o : Oper} {a : Act} {w : World} {Q : Exit → Act → World → Prop} (hgd : o.guard = none) {t e : TypeId} {z : List Value} {k bytes : Nat} (hT : Tryd.prog.underlying t = some (.slice e)) (hinfo : (Tryd.prog.info? e).map (fun i => (i.zero, i.size, i.bytes)) = some (some (.agg z.toArray), k, bytes)) (hk : 0 < k) (hk2 : k ≤ 1000)
    (x : Operand) (ho : o.op = .buildSlice t 1 #[(0, x)]) (us : List Value) (hx : a.eval x = .agg us.toArray) (hul : us.length = k)
    (h : wpList Tryd.prog ops Q rest (a.put o.dst (.slice (some ⟨w.heap.size, 0, none⟩) 1 1)) (w.alloc (.cells us.toArray e))) : wpList Tryd.prog ops Q (o :: rest) a w := by
  refine wpList_plain hgd fun K hK => ?_
  have hr := run_build_k hT hinfo hk hk2 us hul w
  unfold Oper.wp execOp
  simp only [ho, Sem.run_bind, Sem.run_pure, Result.andThen_ok, List.map_toArray, List.map_cons, List.map_nil, hx, hr]
  exact hK _ _ h
def markR : RuleL := ⟨[42], [109, 97, 114, 107, 42], false, false⟩
theorem markR_row : markR.row = [.string ⟨#[42]⟩, .string ⟨#[109, 97, 114, 107, 42]⟩, .bool false, .bool false] := by kernel_rfl
theorem Tryd.info_rule : (Tryd.prog.info? 37).map (fun i => (i.zero, i.size, i.bytes)) = some (some (.agg [Value.string ⟨#[]⟩, .string ⟨#[]⟩, .bool false, .bool false].toArray), 4, 40) := by kernel_rfl
theorem Tryd.built_mark : Tryd.prog.built 37 [(0, .string ⟨#[42]⟩), (1, .string ⟨#[109, 97, 114, 107, 42]⟩)] = some #[.string ⟨#[42]⟩, .string ⟨#[109, 97, 114, 107, 42]⟩, .bool false, .bool false] := by kernel_rfl
theorem rows_len (rs : List RuleL) : ∀ r, r ∈ rs.map RuleL.row → r.length = 4 := fun r hr => by
  obtain ⟨x, _, rfl⟩ := List.mem_map.1 hr
  rfl
theorem rows_one (rs : List RuleL) : ∀ r, r ∈ rs.map RuleL.row → ∀ u, u ∈ r → u.oneCell' = true := fun r hr u hu => by
  obtain ⟨x, _, rfl⟩ := List.mem_map.1 hr
  unfold RuleL.row at hu
  rcases List.mem_cons.1 hu with rfl | hu
  · rfl
  rcases List.mem_cons.1 hu with rfl | hu
  · rfl
  rcases List.mem_cons.1 hu with rfl | hu
  · rfl
  rcases List.mem_cons.1 hu with rfl | hu
  · rfl
  cases hu
theorem row_at_new (w : World) (us : List Value) (e : TypeId) (k : Nat) : RowsAt (w.alloc (.cells us.toArray e)) (.slice (some ⟨w.heap.size, 0, none⟩) 1 1) k [us] := by
  refine ⟨_, 1, rfl, by simp, fun e => by simp at e, by simp, fun _ => ⟨_, 0, rfl, fun i cs hi j u hj => ?_⟩⟩
  rw [cell_of_row _ _ _ _ _ _ (heap_alloc_new w _)]
  match i with
  | 0 => simp at hi; subst hi; simpa using hj
  | i + 1 => simp at hi
end Go.Proofs.YtmjbaficdoehfaaDoor
