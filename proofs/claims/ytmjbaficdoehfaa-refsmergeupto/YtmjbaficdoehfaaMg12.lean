/-
  What the law of Merge wants besides: an append in a drawn region, slices there; what merged lists come to.
-/
import Derived.Test.YtmjbaficdoehfaaMg11
namespace Go.Proofs.Ytmjbaficdoehfaa
open Go.RowKit Go.Sort

theorem step_append_rows {ops : Array Oper} {o : Oper} {a : Act} {w : World} {K : Act → World → Prop} {Q : Exit → Act → World → Prop} {E : Prop} (hgd : o.guard = none) (s x : Operand) (T e : TypeId) (z : Value) (k bytes : Nat)
    (hT : Try.prog.underlying T = some (.slice e)) (hinfo : (Try.prog.info? e).map (fun i => (i.zero, i.size, i.bytes)) = some (some z, k, bytes)) (hzk : z.cells.size = k) (hk : 0 < k)
    (ho : o.op = .call { callee := .builtin .append, args := #[s, x], argTypes := #[T, T] }) {B : Nat} {v : Value} {n : Nat} {xs : List Value} (hs : a.eval s = v) (hown : w.ownsRow B e k v n xs)
    {X : Value} {rows : List (List Value)} (hx : a.eval x = X) (hX : RowsAt w X k rows) (hr : ∀ r, r ∈ rows → r.length = k) (hu : ∀ r, r ∈ rows → ∀ u, u ∈ r → u.oneCell' = true) (hl : n + rows.length ≤ 1000000) (hb : bytes ≤ 1000) (hB : B ≤ w.heap.size)
    (h : ∀ v' w', w'.ownsRow B e k v' (n + rows.length) (xs ++ rows.flatten) → Kept v.ownBlock.toList w w' → K (a.put o.dst v') w') : if Region.wanted o (yielded ops a.tmps) = true then Oper.wp Try.prog o a w K Q else E := by
  have hw : Region.wanted o (yielded ops a.tmps) = true := by simp [Region.wanted, hgd]
  rw [if_pos hw]
  obtain ⟨i0, hi, hez⟩ := Option.map_eq_some_iff.1 hinfo
  simp only [Prod.mk.injEq] at hez
  obtain ⟨q0, q1, q2⟩ := hez
  obtain ⟨ao, cap, rfl, hc, hnil, _, hcell⟩ := hX
  have hmul : (n + rows.length) * bytes ≤ 1000000 * 1000 := Nat.mul_le_mul hl hb
  have key : ∃ v' w', (Builtin.append_ #[T, T] o.type #[v, .slice ao rows.length cap]).run Try.prog w = .ok v' w' ∧ w'.ownsRow B e k v' (n + rows.length) (xs ++ rows.flatten) ∧ Kept v.ownBlock.toList w w' := by
    cases ao with
    | none =>
      obtain rfl : rows = [] := by
        by_cases hy : rows = []
        · exact hy
        · obtain ⟨b, off, hb, _⟩ := hcell hy; cases hb
      obtain rfl := hnil rfl
      exact ⟨v, w, run_append_owned_none (P := Try.prog) (w := w) B _ o.type e i0 k hT hi v _ _ hown, by rw [List.flatten_nil, List.append_nil]; exact hown, Kept.refl _ _⟩
    | some ad =>
      have hnews : ∀ j u, rows.flatten[j]? = some u → w.cell? (ad.add j) = some u := fun j u hj => by
        rw [flat_bind k hk rows hr] at hj
        obtain ⟨r, hr1, hj2⟩ := Option.bind_eq_some_iff.1 hj
        obtain ⟨b, off, hb, hh⟩ := hcell (by rintro rfl; simp at hr1)
        cases hb
        rw [Addr.add_mid]
        have h1 := hh (j / k) r hr1 (j % k) u hj2
        rw [show off + j / k * k + j % k = off + j by rw [Nat.add_assoc, Nat.mul_comm, Nat.div_add_mod]] at h1
        exact h1
      have hfl : rows.flatten.length = rows.length * k := flat_len k rows hr
      obtain ⟨v', w', hrun, h2, h3, _, _⟩ := run_append_own_at (P := Try.prog) w B T o.type e i0 z k bytes hT hi q0 q1 q2 hzk hk v n xs hown ad rows.length cap rows.flatten hfl hnews (fun u hm => by
        obtain ⟨r, hr1, hu1⟩ := List.mem_flatten.1 hm
        exact hu r hr1 u hu1) (by unfold maxLen; omega) (by omega) hB
      exact ⟨v', w', hrun, h2, (Kept.refl _ _).grown h3 fun k hk => Or.inl (by simp [hk])⟩
  obtain ⟨v', w', hrun, h2, h3⟩ := key
  unfold Oper.wp execOp
  simp only [ho, resolve, invoke, builtin, Sem.run_bind, Sem.run_pure, Result.andThen_ok, List.map_toArray, List.map_cons, List.map_nil, hs, hx, hrun]
  exact h v' w' h2 h3
theorem upto_at {C : World → Prop} {K : Act → Prop} {o : Oper} {a : Act} (T : TypeId) (k : Nat) (hu : Try.prog.underlying T = some (.slice (Try.prog.elem T))) (hk : ∀ w, (sizeOf (Try.prog.elem T)).run Try.prog w = .ok k w) (x hi : Operand) (ho : o.op = .slice T x none (some hi) none) (ad : Option Addr) (n cap : Nat) (hx : a.eval x = .slice ad n cap)
    (m : Nat) (l : Int) (hl : l = (m : Int)) (hhi : a.eval hi = .int .i64 l) (hm : m ≤ cap) (hK : K (a.put o.dst (.slice ad m cap))) : o.quiet Try.prog a C K := by
  refine val_at (.slice ad m cap) (fun w => ?_) hK
  have hr : (Instr.slice T (.slice ad n cap) none (some (.int .i64 l)) none).run Try.prog w = .ok (.slice ad m cap) w := by
    subst hl
    rw [run_slice_h w T ad n cap hu .i64 _ (by omega) (by omega), hk]
    have e : (if cap = 0 then ad else ad.map (·.add (0 * k))) = ad := by
      split
      · rfl
      · rw [Nat.zero_mul]
        cases ad with
        | none => rfl
        | some b => rw [Option.map_some]; unfold Addr.add; rw [if_pos rfl]
    unfold sliced
    rw [Result.andThen_ok]
    simp only [e, Int.toNat_natCast, Nat.sub_zero]
  unfold execOp
  simp only [ho, hx, hhi, Option.map_some, Option.map_none]
  simp [run_sliceAt_slice w T _ _ _ _ hu, hr, Result.andThen]
theorem one_merged {x y : StampE} (hn : x.name = y.name) (hb : Beat x y) : MergedTo [x, y] [y] :=
  ⟨List.pairwise_singleton _ _, fun z hz => by rw [List.mem_singleton.1 hz]; simp, fun z hz => by
    rcases List.mem_cons.1 hz with e | e
    · exact ⟨y, by simp, by rw [e, hn], fun k => beat_asymm hb (e ▸ k)⟩
    · rw [List.mem_singleton.1 e]; exact ⟨y, by simp, rfl, beat_self y⟩⟩
def oneA : StampE := ⟨[97], List.replicate 32 0, 1, by decide, ⟨by simp, fun x h => by rw [List.eq_of_mem_replicate h]; decide⟩, by decide, by decide⟩
def oneB : StampE := ⟨[97], List.replicate 32 0, 2, by decide, ⟨by simp, fun x h => by rw [List.eq_of_mem_replicate h]; decide⟩, by decide, by decide⟩
theorem oneAB : MergedTo ([oneA] ++ [oneB]) [oneB] := one_merged rfl (Or.inl (by decide))
end Go.Proofs.Ytmjbaficdoehfaa
