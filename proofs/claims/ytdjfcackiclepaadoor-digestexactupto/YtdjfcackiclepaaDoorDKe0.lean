/-
  PLAIN: what DigestKeyed compares; laws for a region that draws its order while one cell is held.
-/
import Derived.Test.YtdjfcackiclepaaDoorKey2
import Derived.Test.YtdjfcackiclepaaDoorStep
import Derived.Deep.RegionHeldLaw
namespace Go.Proofs.YtdjfcackiclepaaDoor
open Go.RowKit

/-- 'append' of bytes at a step of a drawn region, guarded or not. -/
theorem step_append_wanted {ops : Array Oper} {o : Oper} {a : Act} {w : World} {K : Act → World → Prop} {Q : Exit → Act → World → Prop} {E : Prop} (hw : Region.wanted o (yielded ops a.tmps) = true) (s x : Operand)
    (ho : o.op = .call { callee := .builtin .append, args := #[s, x], argTypes := #[24, 24] }) {B : Nat} {v : Value} {vs : List Int} (hs : a.eval s = v) (hown : OwnB w B v vs)
    {X : Value} {zs : List Int} (hx : a.eval x = X) (hX : BytesAt w X zs) (hl : vs.length + zs.length ≤ 140737488355328) (hB : B ≤ w.heap.size)
    (h : ∀ v' w', Appended w w' B v v' (vs ++ zs) → K (a.put o.dst v') w') : if Region.wanted o (yielded ops a.tmps) = true then Oper.wp Tryd.prog o a w K Q else E := by
  rw [if_pos hw]
  obtain ⟨v', w', hr, h2⟩ := run_append_bytes hown hX hl hB o.type
  unfold Oper.wp execOp
  simp only [ho, resolve, invoke, builtin, Sem.run_bind, Sem.run_pure, Result.andThen_ok, List.map_toArray, List.map_cons, List.map_nil, hs, hx, hr]
  exact h v' w' h2
/-- A row that was laid alone is one's own. -/
theorem own_row {w : World} {g : Nat} {ys : List Int} (h : w.heap[g]? = some (.cells (ys.map (Value.int .u8)).toArray 5 (0, 0))) (hm : ys.length ≤ 140737488355328) : OwnB w g (.slice (some ⟨g, 0, none⟩) ys.length ys.length) ys :=
  ⟨by simp, Or.inr ⟨g, ys.length, _, rfl, Nat.le_refl _, h, Nat.le_refl _, by unfold maxLen; omega, by simp, by rw [Nat.mul_one]; exact List.take_of_length_le (by simp)⟩⟩

theorem mem_toList_some {o : Option Nat} {k : Nat} (h : o = some k) : k ∈ o.toList := by
  subst h
  simp
theorem of_mem_toList {o : Option Nat} {k : Nat} (h : k ∈ o.toList) : o = some k := by simpa using h
/-- Two lists of one's own: one of them is appended to. -/
theorem pair_step {w4 wr w6 : World} {o : Obj} {s5 s6 v5 : Value} {a b a' : List Int} (h5 : OwnB wr w4.heap.size s5 a) (h6 : OwnB wr w4.heap.size s6 b) (hd : ∀ x, s5.ownBlock = some x → s6.ownBlock ≠ some x) (hk : Kept [] w4 wr) (ha : Appended (wr.alloc o) w6 w4.heap.size s5 v5 a') :
    OwnB w6 w4.heap.size s6 b ∧ (∀ x, v5.ownBlock = some x → s6.ownBlock ≠ some x) ∧ Kept [] w4 w6 := by
  have k1 : Kept s5.ownBlock.toList (wr.alloc o) w6 := ha.keep _ _ (Kept.refl _ _) (fun k hk => Or.inl (by simp [hk]))
  refine ⟨(h6.kept ((Kept.refl [] wr).alloc o) (by simp)).kept k1 (fun x hx hm => hd x (by simpa using hm) hx), fun x hx hy => ?_, ha.keep w4 [] (hk.alloc o) (fun k hk => Or.inr (World.ownsRow.lt h5 k hk).1)⟩
  rcases ha.at' with h | h
  · exact hd x (h ▸ hx) hy
  · rw [h] at hx
    have h1 := (World.ownsRow.lt h6 x hy).2
    have h2 : (wr.alloc o).heap.size = x := by simpa using hx
    simp at h2
    omega

/-- The key that DigestKeyed goes on with: the digest of a long one. -/
theorem blockL_short (ks : List Int) (h : ks.length ≤ 64) : blockL ks = ks ++ List.replicate (64 - ks.length) 0 := by
  unfold blockL shortK
  rw [if_neg (by omega)]
theorem shortK_short (ks : List Int) (h : ks.length ≤ 64) : shortK ks = ks := if_neg (by omega)
theorem blockL_shortK (ks : List Int) : blockL (shortK ks) = blockL ks := by
  rw [blockL_short _ (shortK_len ks)]
  rfl
theorem keyL_shortK (ks xs : List Int) : keyL (shortK ks) xs = keyL ks xs := by
  unfold keyL; rw [blockL_shortK]
theorem blockL_zero (ks : List Int) (h : ks.length < 64) : blockL (ks ++ [0]) = blockL ks := by
  rw [blockL_short ks (by omega), blockL_short (ks ++ [0]) (by simp; omega), List.append_assoc]
  congr 1
  rw [List.length_append, show 64 - ks.length = (64 - (ks.length + [0].length)) + 1 by simp; omega, List.replicate_succ]
  rfl
theorem keyL_zero (ks xs : List Int) (h : ks.length < 64) : keyL (ks ++ [0]) xs = keyL ks xs := by
  unfold keyL; rw [blockL_zero ks h]
/-- The byte of the block at a place. -/
theorem blockL_at (ks : List Int) (k : Nat) (_hk : k < 64) : (blockL ks)[k]?.getD 0 = if k < (shortK ks).length then (shortK ks)[k]?.getD 0 else 0 := by
  unfold blockL
  split
  · rw [List.getElem?_append_left (by assumption)]
  · rw [List.getElem?_append_right (by omega), List.getElem?_replicate]
    split <;> rfl
theorem maskL_take (kb : List Int) (m : Int) (k : Nat) (hk : k < kb.length) : (maskL kb m).take (k + 1) = (maskL kb m).take k ++ [bits .xor .u8 (kb[k]?.getD 0) m] := by
  rw [List.take_succ_eq_append_getElem (by rw [maskL_len]; exact hk)]
  congr 2
  unfold maskL
  rw [List.getElem_map, List.getElem?_eq_getElem hk]
  rfl
end Go.Proofs.YtdjfcackiclepaaDoor
