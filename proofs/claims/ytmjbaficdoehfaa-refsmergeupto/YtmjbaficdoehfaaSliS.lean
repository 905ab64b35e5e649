/-
  Slices of slices: the laws of x[:m] and x[m:].
-/
import Derived.Test.YtmjbaficdoehfaaBase
import Derived.Test.YtmjbaficdoehfaaProg
import Derived.Deep.MidRow
import Derived.WalkKit
namespace Go.Proofs.Ytmjbaficdoehfaa
open Go.RowKit

theorem wpList_val' {ops : Array Oper} {rest : List Oper} {o : Oper} {a : Act} {w : World} {Q : Exit → Act → World → Prop} (hgd : o.guard = none) (v : Value) (hv : (execOp a.eval o).run Try.prog w = .ok (.value v) w)
    (h : wpList Try.prog ops Q rest (a.put o.dst v) w) : wpList Try.prog ops Q (o :: rest) a w := by
  refine wpList_plain hgd fun K hK => ?_
  unfold Oper.wp
  rw [hv]
  exact hK _ _ h
theorem wpList_upto {ops : Array Oper} {rest : List Oper} {o : Oper} {a : Act} {w : World} {Q : Exit → Act → World → Prop} (hgd : o.guard = none) (T : TypeId) (k : Nat) (hu : Try.prog.underlying T = some (.slice (Try.prog.elem T))) (hk : (sizeOf (Try.prog.elem T)).run Try.prog w = .ok k w) (x hi : Operand) (ho : o.op = .slice T x none (some hi) none) (b off n cap : Nat) (hx : a.eval x = .slice (some ⟨b, off, none⟩) n cap)
    (m : Nat) (l : Int) (hl : l = (m : Int)) (hhi : a.eval hi = .int .i64 l) (hm : m ≤ cap) (h : wpList Try.prog ops Q rest (a.put o.dst (.slice (some ⟨b, off, none⟩) m cap)) w) : wpList Try.prog ops Q (o :: rest) a w := by
  have hr : (Instr.slice T (.slice (some ⟨b, off, none⟩) n cap) none (some (.int .i64 l)) none).run Try.prog w = .ok (.slice (some ⟨b, off, none⟩) m cap) w := by
    subst hl
    rw [run_slice_h w T (some ⟨b, off, none⟩) n cap hu .i64 _ (by omega) (by omega), hk]
    have e : (if cap = 0 then some (⟨b, off, none⟩ : Addr) else (some (⟨b, off, none⟩ : Addr)).map (·.add (0 * k))) = some ⟨b, off, none⟩ := by
      split
      · rfl
      · rw [Nat.zero_mul, Option.map_some, Addr.add_mid, Nat.add_zero]
    unfold sliced
    rw [Result.andThen_ok]
    simp only [e, Int.toNat_natCast, Nat.sub_zero]
  refine wpList_val' hgd _ ?_ h
  unfold execOp
  simp only [ho, hx, hhi, Option.map_some, Option.map_none]
  simp [run_sliceAt_slice w T _ _ _ _ hu, hr, Result.andThen]
theorem wpList_from {ops : Array Oper} {rest : List Oper} {o : Oper} {a : Act} {w : World} {Q : Exit → Act → World → Prop} (hgd : o.guard = none) (T : TypeId) (k : Nat) (hu : Try.prog.underlying T = some (.slice (Try.prog.elem T))) (hk : (sizeOf (Try.prog.elem T)).run Try.prog w = .ok k w) (x lo : Operand) (ho : o.op = .slice T x (some lo) none none) (b off n cap : Nat) (hx : a.eval x = .slice (some ⟨b, off, none⟩) n cap)
    (m : Nat) (l : Int) (hl : l = (m : Int)) (hlo : a.eval lo = .int .i64 l) (hm : m ≤ n) (hc : m < cap) (h : wpList Try.prog ops Q rest (a.put o.dst (.slice (some ⟨b, off + m * k, none⟩) (n - m) (cap - m))) w) : wpList Try.prog ops Q (o :: rest) a w := by
  have hr : (Instr.slice T (.slice (some ⟨b, off, none⟩) n cap) (some (.int .i64 l)) none none).run Try.prog w = .ok (.slice (some ⟨b, off + m * k, none⟩) (n - m) (cap - m)) w := by
    subst hl
    rw [run_slice_l w T (some ⟨b, off, none⟩) n cap hu .i64 _ (by omega) (by omega), hk]
    unfold sliced
    rw [Result.andThen_ok]
    simp only [Int.toNat_natCast]
    rw [if_neg (by omega), Option.map_some, Addr.add_mid]
  refine wpList_val' hgd _ ?_ h
  unfold execOp
  simp only [ho, hx, hlo, Option.map_some, Option.map_none]
  simp [run_sliceAt_slice w T _ _ _ _ hu, hr, Result.andThen]
theorem wpList_uptoA {ops : Array Oper} {rest : List Oper} {o : Oper} {a : Act} {w : World} {Q : Exit → Act → World → Prop} (hgd : o.guard = none) (T : TypeId) (k : Nat) (hu : Try.prog.underlying T = some (.slice (Try.prog.elem T))) (hk : (sizeOf (Try.prog.elem T)).run Try.prog w = .ok k w) (x hi : Operand) (ho : o.op = .slice T x none (some hi) none) (ad : Option Addr) (n cap : Nat) (hx : a.eval x = .slice ad n cap)
    (m : Nat) (l : Int) (hl : l = (m : Int)) (hhi : a.eval hi = .int .i64 l) (hm : m ≤ cap) (h : wpList Try.prog ops Q rest (a.put o.dst (.slice ad m cap)) w) : wpList Try.prog ops Q (o :: rest) a w := by
  have hr : (Instr.slice T (.slice ad n cap) none (some (.int .i64 l)) none).run Try.prog w = .ok (.slice ad m cap) w := by
    subst hl
    rw [run_slice_h w T ad n cap hu .i64 _ (by omega) (by omega), hk]
    have e : (if cap = 0 then ad else ad.map (·.add (0 * k))) = ad := by
      split
      · rfl
      · rw [Nat.zero_mul]
        cases ad with
        | none => rfl
        | some b => rw [Option.map_some]; unfold Addr.add; rw [if_pos rfl]
    unfold sliced
    rw [Result.andThen_ok]
    simp only [e, Int.toNat_natCast, Nat.sub_zero]
  refine wpList_val' hgd _ ?_ h
  unfold execOp
  simp only [ho, hx, hhi, Option.map_some, Option.map_none]
  simp [run_sliceAt_slice w T _ _ _ _ hu, hr, Result.andThen]
theorem wpList_fromA {ops : Array Oper} {rest : List Oper} {o : Oper} {a : Act} {w : World} {Q : Exit → Act → World → Prop} (hgd : o.guard = none) (T : TypeId) (k : Nat) (hu : Try.prog.underlying T = some (.slice (Try.prog.elem T))) (hk : (sizeOf (Try.prog.elem T)).run Try.prog w = .ok k w) (x lo : Operand) (ho : o.op = .slice T x (some lo) none none) (ad : Option Addr) (n cap : Nat) (hx : a.eval x = .slice ad n cap)
    (m : Nat) (l : Int) (hl : l = (m : Int)) (hlo : a.eval lo = .int .i64 l) (hm : m ≤ n) (h : wpList Try.prog ops Q rest (a.put o.dst (.slice (if cap = m then ad else ad.map (·.add (m * k))) (n - m) (cap - m))) w) : wpList Try.prog ops Q (o :: rest) a w := by
  have hr : (Instr.slice T (.slice ad n cap) (some (.int .i64 l)) none none).run Try.prog w = .ok (.slice (if cap = m then ad else ad.map (·.add (m * k))) (n - m) (cap - m)) w := by
    subst hl
    rw [run_slice_l w T ad n cap hu .i64 _ (by omega) (by omega), hk]
    unfold sliced
    rw [Result.andThen_ok]
    simp only [Int.toNat_natCast]
  refine wpList_val' hgd _ ?_ h
  unfold execOp
  simp only [ho, hx, hlo, Option.map_some, Option.map_none]
  simp [run_sliceAt_slice w T _ _ _ _ hu, hr, Result.andThen]
end Go.Proofs.Ytmjbaficdoehfaa
