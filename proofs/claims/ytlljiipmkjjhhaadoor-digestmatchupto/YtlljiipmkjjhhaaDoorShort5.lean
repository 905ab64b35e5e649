/-
  How the digits that two ids have in common tell their beginnings; the length of an abbreviation. Pure.
  Lists of ids of one's own: 'append' of ids; the WALK of satchellaw1.LendIDs.
-/
import Derived.Test.YtlljiipmkjjhhaaDoorHex1
import Derived.Test.YtlljiipmkjjhhaaDoorShort2
import Derived.BigQuiet
import Derived.Deep.QuietTactic
import Derived.Maps.AppendAt
import Derived.Laws.AppendOwnNone
namespace Go.Proofs.YtlljiipmkjjhhaaDoor
open Go.RowKit

theorem digit_inj (a b : Int) (ha : 0 ≤ a ∧ a < 16) (hb : 0 ≤ b ∧ b < 16) (h : digitL a = digitL b) : a = b := by
  unfold digitL at h
  split at h <;> split at h <;> omega
theorem take_hexL (bs : List Int) (n : Nat) (hn : n ≤ 64) : (hexL bs).take n = (List.range n).map fun k => digitL (halfL bs k) := by
  unfold hexL
  rw [← List.map_take, List.take_range, Nat.min_eq_left hn]
theorem take_com (a b : List Int) (ha : Octs a) (hb : Octs b) (n : Nat) (hn : n ≤ 64) : (hexL a).take n = (hexL b).take n ↔ n ≤ comL a b := by
  obtain ⟨h1, h2, h3⟩ := comL_spec a b
  rw [take_hexL a n hn, take_hexL b n hn]
  constructor
  · intro h
    rcases Nat.lt_or_ge (comL a b) n with hlt | hge
    · refine absurd ?_ (h3 (by omega))
      have e := congrArg (fun l => l[comL a b]?) h
      simp [hlt] at e
      exact digit_inj _ _ (halfL_fits a ha _) (halfL_fits b hb _) e
    · exact hge
  · intro h
    refine List.map_congr_left fun k hk => ?_
    rw [h2 k (by have := List.mem_range.1 hk; omega)]
theorem begB_com (a b : List Int) (ha : Octs a) (hb : Octs b) (n : Nat) (hn : n ≤ 64) : begB (hexL a) ((hexL b).take n) = decide (n ≤ comL a b) := by
  have hl : ((hexL b).take n).length = n := by rw [List.length_take, hexL_len]; omega
  unfold begB
  rw [hl, hexL_len, decide_eq_true hn, Bool.true_and]
  by_cases h : n ≤ comL a b
  · rw [decide_eq_true h, decide_eq_true ((take_com a b ha hb n hn).2 h)]
  · rw [decide_eq_false h, decide_eq_false fun e => h ((take_com a b ha hb n hn).1 e)]

end Go.Proofs.YtlljiipmkjjhhaaDoor

namespace Go.Proofs.YtlljiipmkjjhhaaDoor
open Go.RowKit

theorem Tryd.info_id : (Tryd.prog.info? 24).map (fun i => (i.zero, i.size, i.bytes)) = some (some (.agg (idC zero32)), 32, 32) := by kernel_rfl

def flatI (ids : List (List Int)) : List Value := ids.flatMap fun xs => xs.map (Value.int .u8)
theorem flatI_len : ∀ ids : List (List Int), (∀ o, o ∈ ids → GoodID o) → (flatI ids).length = ids.length * 32
  | [], _ => rfl
  | x :: r, h => by
    have h1 := (h x (by simp)).1
    have h2 := flatI_len r fun o ho => h o (by simp [ho])
    unfold flatI at h2 ⊢
    rw [List.flatMap_cons, List.length_append, List.length_map, h1, h2, List.length_cons]
    omega
theorem flatI_append (a b : List (List Int)) : flatI (a ++ b) = flatI a ++ flatI b := by unfold flatI; rw [List.flatMap_append]
theorem flatI_get : ∀ (ids : List (List Int)), (∀ o, o ∈ ids → GoodID o) → ∀ (j : Nat) (u : Value), (flatI ids)[j]? = some u → ∃ xs, ids[j / 32]? = some xs ∧ (xs.map (Value.int .u8))[j % 32]? = some u
  | [], _, j, u, hj => by simp [flatI] at hj
  | x :: r, h, j, u, hj => by
    have h1 := (h x (by simp)).1
    have e : flatI (x :: r) = x.map (Value.int .u8) ++ flatI r := by unfold flatI; rw [List.flatMap_cons]
    rw [e] at hj
    by_cases hlt : j < 32
    · rw [List.getElem?_append_left (by rw [List.length_map, h1]; exact hlt)] at hj
      refine ⟨x, ?_, ?_⟩
      · rw [show j / 32 = 0 by omega]; rfl
      · rw [show j % 32 = j by omega]; exact hj
    · rw [List.getElem?_append_right (by rw [List.length_map, h1]; omega), List.length_map, h1] at hj
      obtain ⟨xs, h2, h3⟩ := flatI_get r (fun o ho => h o (by simp [ho])) (j - 32) u hj
      refine ⟨xs, ?_, ?_⟩
      · rw [show j / 32 = (j - 32) / 32 + 1 by omega, List.getElem?_cons_succ]; exact h2
      · rw [show j % 32 = (j - 32) % 32 by omega]; exact h3

/-- A list of ids of one's own. -/
def OwnI (w : World) (B : Nat) (v : Value) (ids : List (List Int)) : Prop := w.ownsRow B 24 32 v ids.length (flatI ids)

theorem OwnI.kept {w w' : World} {B : Nat} {v : Value} {ids : List (List Int)} {T : List Nat} (h : OwnI w B v ids) (k : Kept T w w') (hd : ∀ b, v.ownBlock = some b → b ∉ T) : OwnI w' B v ids := by
  refine ⟨h.1, ?_⟩
  rcases h.2 with hn | ⟨g, cap', cur, hv, hg, hh, rest⟩
  · exact Or.inl hn
  · exact Or.inr ⟨g, cap', cur, hv, hg, k.heap hh (hd g (by rw [hv]; simp [Value.ownBlock])), rest⟩

/-- What 'append' of ids leaves. -/
structure AppendedI (w w' : World) (B : Nat) (v v' : Value) (ids : List (List Int)) : Prop where
  own : OwnI w' B v' ids
  keep : ∀ (a : World) (S : List Nat), Kept S a w → (∀ k, v.ownBlock = some k → k ∈ S ∨ a.heap.size ≤ k) → Kept S a w'
  at' : v'.ownBlock = v.ownBlock ∨ v'.ownBlock = some w.heap.size

theorem run_append_ids {w : World} {B : Nat} {v : Value} {vs : List (List Int)} (hown : OwnI w B v vs) {x : Value} {zs : List (List Int)} (hx : IdsAt w x zs) (hgz : ∀ o, o ∈ zs → GoodID o) (hl : (vs.length + zs.length) * 32 ≤ 140737488355328) (hB : B ≤ w.heap.size) (ty : TypeId) :
    ∃ v' w', (Builtin.append_ #[22, 22] ty #[v, x]).run Tryd.prog w = .ok v' w' ∧ AppendedI w w' B v v' (vs ++ zs) := by
  obtain ⟨i0, hi, he⟩ := Option.map_eq_some_iff.1 Tryd.info_id
  simp only [Prod.mk.injEq] at he
  obtain ⟨hz0, hz1, hz2⟩ := he
  obtain ⟨ao, cap, rfl, hc, hnil, hlz, hcell⟩ := hx
  cases ao with
  | none =>
    obtain rfl : zs = [] := by
      by_cases hy : zs = []
      · exact hy
      · obtain ⟨b, off, hb, _⟩ := hcell hy; cases hb
    obtain rfl := hnil rfl
    exact ⟨v, w, run_append_owned_none (P := Tryd.prog) (w := w) B _ ty 24 i0 32 Tryd.underlying22 hi v _ _ hown, by rw [List.append_nil]; exact hown, fun _ _ h _ => h, Or.inl rfl⟩
  | some a =>
    have hnews : ∀ j u, (flatI zs)[j]? = some u → w.cell? (a.add j) = some u := by
      intro j u hu
      obtain ⟨xs, h1, h2⟩ := flatI_get zs hgz j u hu
      obtain ⟨b, off, hb, hh⟩ := hcell (by rintro rfl; simp at h1)
      cases hb
      have h3 := hh _ xs h1 _ u h2
      rw [Addr.add_mid]
      rw [show off + j / 32 * 32 + j % 32 = off + j by omega] at h3
      exact h3
    have h1c : ∀ u ∈ flatI zs, u.oneCell' = true := by
      intro u hu
      unfold flatI at hu
      obtain ⟨xs, _, hx⟩ := List.mem_flatMap.1 hu
      exact map_oneCell xs u hx
    obtain ⟨v', w', hr, h2, h3, _, h5⟩ := run_append_own_at (P := Tryd.prog) w B _ ty 24 i0 (.agg (idC zero32)) 32 32 Tryd.underlying22 hi hz0 hz1 hz2 rfl (by decide) v vs.length _ hown a zs.length cap (flatI zs) (flatI_len zs hgz) hnews h1c (by unfold maxLen; omega) hl hB
    refine ⟨v', w', hr, ?_, fun a S h hk => h.grown h3 hk, h5⟩
    unfold OwnI
    rw [List.length_append, flatI_append]
    exact h2

theorem wpList_append_ids {ops : Array Oper} {rest : List Oper} {o : Oper} {a : Act} {w : World} {Q : Exit → Act → World → Prop} (hgd : o.guard = none) (s x : Operand)
    (ho : o.op = .call { callee := .builtin .append, args := #[s, x], argTypes := #[22, 22] }) {B : Nat} {v : Value} {vs : List (List Int)} (hs : a.eval s = v) (hown : OwnI w B v vs)
    {X : Value} {zs : List (List Int)} (hx : a.eval x = X) (hX : IdsAt w X zs) (hgz : ∀ o, o ∈ zs → GoodID o) (hl : (vs.length + zs.length) * 32 ≤ 140737488355328) (hB : B ≤ w.heap.size)
    (h : ∀ v' w', AppendedI w w' B v v' (vs ++ zs) → wpList Tryd.prog ops Q rest (a.put o.dst v') w') : wpList Tryd.prog ops Q (o :: rest) a w := by
  refine wpList_plain hgd fun K hK => ?_
  obtain ⟨v', w', hr, h2⟩ := run_append_ids hown hX hgz hl hB o.type
  unfold Oper.wp execOp
  simp only [ho, resolve, invoke, builtin, Sem.run_bind, Sem.run_pure, Result.andThen_ok, List.map_toArray, List.map_cons, List.map_nil, hs, hx, hr]
  exact hK _ _ (h v' w' h2)
end Go.Proofs.YtlljiipmkjjhhaaDoor
