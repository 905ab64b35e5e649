/-
  Lists of ids that are written out; ids lent with marks behind them: the WALK of satchellaw1.LendIDs.
-/
import Derived.Test.YtlljiipmkjjhhaaDoorShort5
import Derived.Great.BuildSlice
namespace Go.Proofs.YtlljiipmkjjhhaaDoor
open Go.RowKit

theorem flatI_at : ∀ (ids : List (List Int)), (∀ o, o ∈ ids → GoodID o) → ∀ (i : Nat) (xs : List Int) (j : Nat), ids[i]? = some xs → j < 32 → (flatI ids)[i * 32 + j]? = (xs.map (Value.int .u8))[j]?
  | [], _, i, xs, j, h, _ => by simp at h
  | x :: r, hg, i, xs, j, h, hj => by
    have h1 := (hg x (by simp)).1
    have e : flatI (x :: r) = x.map (Value.int .u8) ++ flatI r := by unfold flatI; rw [List.flatMap_cons]
    rw [e]
    cases i with
    | zero =>
      rw [List.getElem?_cons_zero] at h
      cases h
      rw [Nat.zero_mul, Nat.zero_add, List.getElem?_append_left (by rw [List.length_map, h1]; exact hj)]
    | succ i =>
      rw [List.getElem?_cons_succ] at h
      rw [List.getElem?_append_right (by rw [List.length_map, h1]; omega), List.length_map, h1, show (i + 1) * 32 + j - 32 = i * 32 + j by omega]
      exact flatI_at r (fun o ho => hg o (by simp [ho])) i xs j h hj

theorem flatI_bind (ids : List (List Int)) (hg : ∀ o, o ∈ ids → GoodID o) (k : Nat) (hk : k < ids.length * 32) : (flatI ids)[k]? = ((ids.map fun x => Value.agg (idC x))[k / 32]?).bind fun v => v.cells[k % 32]? := by
  have hl := flatI_len ids hg
  obtain ⟨u, hu⟩ : ∃ u, (flatI ids)[k]? = some u := ⟨_, List.getElem?_eq_getElem (by rw [hl]; exact hk)⟩
  obtain ⟨xs, h1, h2⟩ := flatI_get ids hg k u hu
  rw [hu, List.getElem?_map, h1, Option.map_some, Option.bind_some]
  show some u = (idC xs)[k % 32]?
  unfold idC
  rw [List.getElem?_toArray]
  exact h2.symm

theorem fill_ids (ids : List (List Int)) (hg : ∀ o, o ∈ ids → GoodID o) (A : Array Value) (hA : A.size = ids.length * 32) :
    Instr.fill (fun i => some (i * 32, 32)) A (((ids.map fun x => Value.agg (idC x)).zipIdx 0).map fun x => (x.2, x.1)) = some (flatI ids).toArray := by
  obtain ⟨r, h1, h2, h3⟩ := Great.fill_dense (s := 32) (by decide) (ids.map fun x => Value.agg (idC x)) 0 A (fun v hv => by
    obtain ⟨x, hx, rfl⟩ := List.mem_map.1 hv
    exact idC_size (hg x hx).1) (by rw [List.length_map, hA]; omega)
  rw [h1]
  congr 1
  apply Array.ext_getElem?
  intro k
  have e : (flatI ids).toArray[k]? = (flatI ids)[k]? := by simp
  rw [e, h3 k, List.length_map, Nat.zero_mul, Nat.zero_add, Nat.sub_zero]
  by_cases hk : k < ids.length * 32
  · rw [if_pos ⟨Nat.zero_le _, hk⟩, flatI_bind ids hg k hk]
  · rw [if_neg (by omega), List.getElem?_eq_none (l := flatI ids) (by rw [flatI_len ids hg]; omega), Array.getElem?_eq_none (by omega)]

theorem wpList_build_ids {ops : Array Oper} {rest : List Oper} {o : Oper} {a : Act} {w : World} {Q : Exit → Act → World → Prop} (hgd : o.guard = none) (parts : Array (Nat × Operand)) (len : Nat) (ho : o.op = .buildSlice 22 len parts)
    (ids : List (List Int)) (hg : ∀ o, o ∈ ids → GoodID o) (hl : len = ids.length) (hp : 0 < len) (hm : len ≤ 1000)
    (hparts : (parts.map fun (i, x) => (i, a.eval x)).toList = ((ids.map fun x => Value.agg (idC x)).zipIdx 0).map fun x => (x.2, x.1))
    (h : wpList Tryd.prog ops Q rest (a.put o.dst (.slice (some ⟨w.heap.size, 0, none⟩) len len)) (w.alloc (.cells (flatI ids).toArray 24))) : wpList Tryd.prog ops Q (o :: rest) a w := by
  obtain ⟨i0, hi, he⟩ := Option.map_eq_some_iff.1 Tryd.info_id
  simp only [Prod.mk.injEq] at he
  obtain ⟨hz0, hz1, hz2⟩ := he
  refine wpList_buildSlice hgd 22 24 len parts ho (flatI ids).toArray i0 (.agg (idC zero32)) Tryd.underlying22 hi hz0 (by rw [hz1]; omega) (by rw [hz1]; omega) ?_ h
  rw [hparts, hz1]
  exact fill_ids ids hg _ (by simp [hl])

theorem IdsAt.built (w : World) (ids : List (List Int)) (hg : ∀ o, o ∈ ids → GoodID o) (hm : ids.length ≤ 1000) : IdsAt (w.alloc (.cells (flatI ids).toArray 24)) (.slice (some ⟨w.heap.size, 0, none⟩) ids.length ids.length) ids := by
  refine ⟨_, _, rfl, Nat.le_refl _, fun e => (by cases e), (by omega), fun _ => ⟨w.heap.size, 0, rfl, fun i xs hi j v hj => ?_⟩⟩
  have h32 := (hg xs (List.mem_of_getElem? hi)).1
  have hjl : j < 32 := by
    have := (List.getElem?_eq_some_iff.1 hj).1
    rw [List.length_map, h32] at this
    exact this
  rw [cell_of_row _ _ _ _ _ _ (heap_alloc_new w _), Nat.zero_add, List.getElem?_toArray, flatI_at ids hg i xs j hi hjl]
  exact hj

theorem OwnI.form {w : World} {B : Nat} {v : Value} {ids : List (List Int)} (h : OwnI w B v ids) (hn : ids ≠ []) : ∃ g cap, v = .slice (some ⟨g, 0, none⟩) ids.length cap ∧ B ≤ g ∧ g < w.heap.size ∧ ids.length ≤ cap ∧ cap ≤ 9223372036854775807 := by
  rcases h.2 with ⟨_, h0⟩ | ⟨g, cap', cur, hv, hg, hh, h1, h2, rest⟩
  · exact absurd (List.eq_nil_of_length_eq_zero h0) hn
  · exact ⟨g, cap', hv, hg, lt_of_block hh, h1, h2⟩
theorem OwnI.good {w : World} {B : Nat} {v : Value} {ids : List (List Int)} (h : OwnI w B v ids) (hl : ids.length ≤ 140737488351232) (hg : ∀ o, o ∈ ids → GoodID o) : IdsAt w v ids := by
  rcases h.2 with ⟨hv, h0⟩ | ⟨g, cap', cur, hv, hb, hh, hnc, hcm, hcs, htk⟩
  · obtain rfl : ids = [] := List.eq_nil_of_length_eq_zero h0
    rw [hv]
    exact ⟨none, 0, rfl, Nat.le_refl _, fun _ => rfl, by simp, fun h => absurd rfl h⟩
  · rw [hv]
    refine ⟨_, cap', rfl, hnc, fun e => (by cases e), hl, fun _ => ⟨g, 0, rfl, fun i xs hi j v hj => ?_⟩⟩
    have h32 := (hg xs (List.mem_of_getElem? hi)).1
    have hil : i < ids.length := (List.getElem?_eq_some_iff.1 hi).1
    have hjl : j < 32 := by
      have := (List.getElem?_eq_some_iff.1 hj).1
      rw [List.length_map, h32] at this
      exact this
    rw [cell_of_row w g _ _ _ _ hh, Nat.zero_add, ← Array.getElem?_toList]
    have h2 : (cur.toList.take (ids.length * 32))[i * 32 + j]? = cur.toList[i * 32 + j]? := List.getElem?_take_of_lt (by omega)
    rw [← h2, htk, flatI_at ids hg i xs j hi hjl]
    exact hj

def markA : List Int := 165 :: List.replicate 31 0
def markB : List Int := 90 :: List.replicate 31 0
theorem goodA : GoodID markA := ⟨rfl, fun u hu => by unfold markA at hu; rcases List.mem_cons.1 hu with rfl | h; exact ⟨by decide, by decide⟩; obtain rfl := (List.mem_replicate.1 h).2; exact ⟨by decide, by decide⟩⟩
theorem goodB : GoodID markB := ⟨rfl, fun u hu => by unfold markB at hu; rcases List.mem_cons.1 hu with rfl | h; exact ⟨by decide, by decide⟩; obtain rfl := (List.mem_replicate.1 h).2; exact ⟨by decide, by decide⟩⟩
theorem Tryd.builtA : Tryd.prog.built 24 [(0, .int .u8 165)] = some (idC markA) := by kernel_rfl
theorem Tryd.builtB : Tryd.prog.built 24 [(0, .int .u8 90)] = some (idC markB) := by kernel_rfl
theorem wpList_build_mark {ops : Array Oper} {rest : List Oper} {o : Oper} {a : Act} {w : World} {Q : Exit → Act → World → Prop} (hgd : o.guard = none) (c : Int) (m : Array Value) (ho : o.op = .build 24 #[(0, .const (.int .u8 c))])
    (hb : Tryd.prog.built 24 [(0, .int .u8 c)] = some m) (h : wpList Tryd.prog ops Q rest (a.put o.dst (.agg m)) w) : wpList Tryd.prog ops Q (o :: rest) a w := by
  have e : ((#[(0, Operand.const (.int .u8 c))] : Array (Nat × Operand)).map fun (i, x) => (i, a.eval x)).toList = [(0, .int .u8 c)] := by simp [Act.eval]
  refine wpList_build hgd 24 _ ho ?_ ?_
  · rw [e, hb]; rfl
  · rw [e, hb]; exact h

def LentI (w : World) (B g cap : Nat) (ids : List (List Int)) : Prop := OwnI w B (.slice (some ⟨g, 0, none⟩) (ids.length + 2) cap) (ids ++ [markA, markB])

set_option maxRecDepth 100000 in
set_option maxHeartbeats 1000000 in
theorem LendIDs_any (v : Value) (ids : List (List Int)) (w : World) (hv : IdsAt w v ids) (hg : ∀ o, o ∈ ids → GoodID o) (hm : (ids.length + 2) * 32 ≤ 140737488355328) :
    Calls Tryd.prog 4 #[v] w fun e w' => ∃ g cap, e = .returned (.slice (some ⟨g, 0, none⟩) ids.length cap) ∧ LentI w' w.heap.size g cap ids ∧ Kept [] w w' := by
  have h0 : OwnI w w.heap.size (.slice none 0 0) [] := World.ownsRow_nil w _ _ _
  have HV : Hid (IdsAt w v ids) := hv
  have HG : Hid (∀ o, o ∈ [markA, markB] → GoodID o) := fun o ho => by
    rcases List.mem_cons.1 ho with rfl | h
    · exact goodA
    · rw [List.mem_singleton.1 h]; exact goodB
  obtain ⟨ao, cap, rfl, _, _, _, _⟩ := hv
  go_enter Tryd.func4, Tryd.ntmps4
  go_wp2_with (first
    | (at_builtin; refine wpList_append_ids rfl (.tmp 4) (.tmp 5) rfl rfl h0 rfl HV.out hg (by simp; omega) (Nat.le_refl _) ?_; intro v1 w1 ha1
       have HK1 : Hid (Kept [] w w1) := ha1.keep w [] (Kept.refl _ _) (fun k hk => by cases hk)
       have HO1 : Hid (OwnI w1 w.heap.size v1 ids) := ha1.own
       clear ha1)
    | (refine wpList_build_mark rfl 165 (idC markA) rfl Tryd.builtA ?_)
    | (refine wpList_build_mark rfl 90 (idC markB) rfl Tryd.builtB ?_)
    | (refine wpList_build_ids rfl _ 2 rfl [markA, markB] HG.out rfl (by decide) (by decide) rfl ?_)
    | (at_builtin; refine wpList_append_ids (B := w.heap.size) (vs := ids) (zs := [markA, markB]) rfl (.tmp 7) (.tmp 10) rfl rfl (OwnI.kept HO1.out ((Kept.refl [] w1).alloc _) (fun _ _ => by simp)) rfl (IdsAt.built w1 [markA, markB] HG.out (by decide)) HG.out hm (Nat.le_trans HK1.out.size (by simp)) ?_; intro v2 w2 ha2
       obtain ⟨g, cap', rfl, hbg, hgl, hnc, hcm⟩ := ha2.own.form (by simp)
       have HK2 : Hid (Kept [] w w2) := ha2.keep w [] (HK1.out.alloc _) (fun k hk => Or.inr (by
         rcases HO1.out.2 with ⟨hv, _⟩ | ⟨g, cap', cur, hv, hb, _⟩
         · rw [hv] at hk; cases hk
         · rw [hv] at hk; cases hk; exact hb))
       have HO2 : Hid (OwnI w2 w.heap.size (.slice (some ⟨g, 0, none⟩) (ids ++ [markA, markB]).length cap') (ids ++ [markA, markB])) := ha2.own
       have hll : (ids ++ [markA, markB]).length = ids.length + 2 := by simp
       rw [hll] at hnc
       clear ha2))
  go_ret
  refine ⟨g, cap', rfl, ?_, HK2.out⟩
  have h := HO2.out
  rw [hll] at h
  exact h
end Go.Proofs.YtlljiipmkjjhhaaDoor
