/-
  WALKS: (*satchellaw1.Book).plain, kept, told, held, holds, grow, Look: of a book that holds lists of bytes alone.
-/
import Derived.Test.YtldhbcppnoldiaaBk4
import Derived.Deep.QuietTactic
namespace Go.Proofs.Ytldhbcppnoldiaa
open Go.RowKit

theorem drew_sum (w : World) (n m : Nat) : ∃ k, (w.drewN n).drewN m = w.drewN k := ⟨n + m, World.drewN_drewN _ _ _⟩

section
variable {W : World} {B bb : Nat} {vb vo : Value} {D : Nat → Option MB} {SD : List Nat} {L1 L2 : List Value} {a turn done used : Int}
theorem BkS.zero (P : BkS W B bb vb vo D SD L1 L2 a turn done used) (j : Nat) (hj : j < 10) : W.cell? ⟨bb, 3 * j + 3, none⟩ = some (.slice none 0 0) ∧ W.cell? ⟨bb, 3 * j + 5, none⟩ = some (.int .i64 0) ∧ ∀ o, W.frozen? ⟨bb, o, none⟩ = false := by
  obtain ⟨h1, h2, _⟩ := own_facts P.box
  refine ⟨?_, ?_, h2⟩
  · rw [h1]
    match j, hj with
    | 0, _ => rfl
    | 1, _ => rfl
    | 2, _ => rfl
    | 3, _ => rfl
    | 4, _ => rfl
    | 5, _ => rfl
    | 6, _ => rfl
    | 7, _ => rfl
    | 8, _ => rfl
    | 9, _ => rfl
  · rw [h1]
    match j, hj with
    | 0, _ => rfl
    | 1, _ => rfl
    | 2, _ => rfl
    | 3, _ => rfl
    | 4, _ => rfl
    | 5, _ => rfl
    | 6, _ => rfl
    | 7, _ => rfl
    | 8, _ => rfl
    | 9, _ => rfl

set_option maxHeartbeats 1000000 in
theorem growRows_no (P : BkS W B bb vb vo D SD L1 L2 a turn done used) : Calls Try.prog 75 #[.pointer (some ⟨bb, 0, none⟩)] W fun e w' => e = .returned (.tuple #[]) ∧ w' = W.setCell ⟨bb, 5, none⟩ (.int .i64 0) := by
  obtain ⟨z1, z2, zf⟩ := P.zero 0 (by decide)
  have z1 : W.cell? ⟨bb, 3, none⟩ = some (.slice none 0 0) := z1
  have z2 : W.cell? ⟨bb, 5, none⟩ = some (.int .i64 0) := z2
  clear P
  go_enter Try.func75, Try.ntmps75
  go_wp2
  go_loopw [3, 4, 5, 6] (fun s3 _ _ _ wr => s3 = .int .i64 0 ∧ wr = W) (fun _ _ _ _ _ => 0)
  case atStart => exact ⟨rfl, rfl⟩
  case round =>
    obtain ⟨rfl, hw⟩ := hrel
    subst hw
    go_wp2
    go_end0
    exact ⟨rfl, rfl⟩

set_option maxHeartbeats 1000000 in
theorem growIds_no (P : BkS W B bb vb vo D SD L1 L2 a turn done used) : Calls Try.prog 76 #[.pointer (some ⟨bb, 0, none⟩)] W fun e w' => e = .returned (.tuple #[]) ∧ w' = W.setCell ⟨bb, 8, none⟩ (.int .i64 0) := by
  obtain ⟨z1, z2, zf⟩ := P.zero 1 (by decide)
  have z1 : W.cell? ⟨bb, 6, none⟩ = some (.slice none 0 0) := z1
  have z2 : W.cell? ⟨bb, 8, none⟩ = some (.int .i64 0) := z2
  clear P
  go_enter Try.func76, Try.ntmps76
  go_wp2
  go_loopw [3, 4, 5, 6] (fun s3 _ _ _ wr => s3 = .int .i64 0 ∧ wr = W) (fun _ _ _ _ _ => 0)
  case atStart => exact ⟨rfl, rfl⟩
  case round =>
    obtain ⟨rfl, hw⟩ := hrel
    subst hw
    go_wp2
    go_end0
    exact ⟨rfl, rfl⟩

set_option maxHeartbeats 1000000 in
theorem growTexts_no (P : BkS W B bb vb vo D SD L1 L2 a turn done used) : Calls Try.prog 77 #[.pointer (some ⟨bb, 0, none⟩)] W fun e w' => e = .returned (.tuple #[]) ∧ w' = W.setCell ⟨bb, 11, none⟩ (.int .i64 0) := by
  obtain ⟨z1, z2, zf⟩ := P.zero 2 (by decide)
  have z1 : W.cell? ⟨bb, 9, none⟩ = some (.slice none 0 0) := z1
  have z2 : W.cell? ⟨bb, 11, none⟩ = some (.int .i64 0) := z2
  clear P
  go_enter Try.func77, Try.ntmps77
  go_wp2
  go_loopw [3, 4, 5, 6] (fun s3 _ _ _ wr => s3 = .int .i64 0 ∧ wr = W) (fun _ _ _ _ _ => 0)
  case atStart => exact ⟨rfl, rfl⟩
  case round =>
    obtain ⟨rfl, hw⟩ := hrel
    subst hw
    go_wp2
    go_end0
    exact ⟨rfl, rfl⟩

set_option maxHeartbeats 1000000 in
theorem growRefs_no (P : BkS W B bb vb vo D SD L1 L2 a turn done used) : Calls Try.prog 78 #[.pointer (some ⟨bb, 0, none⟩)] W fun e w' => e = .returned (.tuple #[]) ∧ w' = W.setCell ⟨bb, 14, none⟩ (.int .i64 0) := by
  obtain ⟨z1, z2, zf⟩ := P.zero 3 (by decide)
  have z1 : W.cell? ⟨bb, 12, none⟩ = some (.slice none 0 0) := z1
  have z2 : W.cell? ⟨bb, 14, none⟩ = some (.int .i64 0) := z2
  clear P
  go_enter Try.func78, Try.ntmps78
  go_wp2
  go_loopw [3, 4, 5, 6] (fun s3 _ _ _ wr => s3 = .int .i64 0 ∧ wr = W) (fun _ _ _ _ _ => 0)
  case atStart => exact ⟨rfl, rfl⟩
  case round =>
    obtain ⟨rfl, hw⟩ := hrel
    subst hw
    go_wp2
    go_end0
    exact ⟨rfl, rfl⟩

set_option maxHeartbeats 1000000 in
theorem growStamps_no (P : BkS W B bb vb vo D SD L1 L2 a turn done used) : Calls Try.prog 79 #[.pointer (some ⟨bb, 0, none⟩)] W fun e w' => e = .returned (.tuple #[]) ∧ w' = W.setCell ⟨bb, 17, none⟩ (.int .i64 0) := by
  obtain ⟨z1, z2, zf⟩ := P.zero 4 (by decide)
  have z1 : W.cell? ⟨bb, 15, none⟩ = some (.slice none 0 0) := z1
  have z2 : W.cell? ⟨bb, 17, none⟩ = some (.int .i64 0) := z2
  clear P
  go_enter Try.func79, Try.ntmps79
  go_wp2
  go_loopw [3, 4, 5, 6] (fun s3 _ _ _ wr => s3 = .int .i64 0 ∧ wr = W) (fun _ _ _ _ _ => 0)
  case atStart => exact ⟨rfl, rfl⟩
  case round =>
    obtain ⟨rfl, hw⟩ := hrel
    subst hw
    go_wp2
    go_end0
    exact ⟨rfl, rfl⟩

set_option maxHeartbeats 1000000 in
theorem growMoves_no (P : BkS W B bb vb vo D SD L1 L2 a turn done used) : Calls Try.prog 80 #[.pointer (some ⟨bb, 0, none⟩)] W fun e w' => e = .returned (.tuple #[]) ∧ w' = W.setCell ⟨bb, 20, none⟩ (.int .i64 0) := by
  obtain ⟨z1, z2, zf⟩ := P.zero 5 (by decide)
  have z1 : W.cell? ⟨bb, 18, none⟩ = some (.slice none 0 0) := z1
  have z2 : W.cell? ⟨bb, 20, none⟩ = some (.int .i64 0) := z2
  clear P
  go_enter Try.func80, Try.ntmps80
  go_wp2
  go_loopw [3, 4, 5, 6] (fun s3 _ _ _ wr => s3 = .int .i64 0 ∧ wr = W) (fun _ _ _ _ _ => 0)
  case atStart => exact ⟨rfl, rfl⟩
  case round =>
    obtain ⟨rfl, hw⟩ := hrel
    subst hw
    go_wp2
    go_end0
    exact ⟨rfl, rfl⟩

set_option maxHeartbeats 1000000 in
theorem growLinks_no (P : BkS W B bb vb vo D SD L1 L2 a turn done used) : Calls Try.prog 81 #[.pointer (some ⟨bb, 0, none⟩)] W fun e w' => e = .returned (.tuple #[]) ∧ w' = W.setCell ⟨bb, 23, none⟩ (.int .i64 0) := by
  obtain ⟨z1, z2, zf⟩ := P.zero 6 (by decide)
  have z1 : W.cell? ⟨bb, 21, none⟩ = some (.slice none 0 0) := z1
  have z2 : W.cell? ⟨bb, 23, none⟩ = some (.int .i64 0) := z2
  clear P
  go_enter Try.func81, Try.ntmps81
  go_wp2
  go_loopw [3, 4, 5, 6] (fun s3 _ _ _ wr => s3 = .int .i64 0 ∧ wr = W) (fun _ _ _ _ _ => 0)
  case atStart => exact ⟨rfl, rfl⟩
  case round =>
    obtain ⟨rfl, hw⟩ := hrel
    subst hw
    go_wp2
    go_end0
    exact ⟨rfl, rfl⟩

set_option maxHeartbeats 1000000 in
theorem growFiles_no (P : BkS W B bb vb vo D SD L1 L2 a turn done used) : Calls Try.prog 82 #[.pointer (some ⟨bb, 0, none⟩)] W fun e w' => e = .returned (.tuple #[]) ∧ w' = W.setCell ⟨bb, 26, none⟩ (.int .i64 0) := by
  obtain ⟨z1, z2, zf⟩ := P.zero 7 (by decide)
  have z1 : W.cell? ⟨bb, 24, none⟩ = some (.slice none 0 0) := z1
  have z2 : W.cell? ⟨bb, 26, none⟩ = some (.int .i64 0) := z2
  clear P
  go_enter Try.func82, Try.ntmps82
  go_wp2
  go_loopw [3, 4, 5, 6] (fun s3 _ _ _ wr => s3 = .int .i64 0 ∧ wr = W) (fun _ _ _ _ _ => 0)
  case atStart => exact ⟨rfl, rfl⟩
  case round =>
    obtain ⟨rfl, hw⟩ := hrel
    subst hw
    go_wp2
    go_end0
    exact ⟨rfl, rfl⟩

set_option maxHeartbeats 1000000 in
theorem growEntries_no (P : BkS W B bb vb vo D SD L1 L2 a turn done used) : Calls Try.prog 83 #[.pointer (some ⟨bb, 0, none⟩)] W fun e w' => e = .returned (.tuple #[]) ∧ w' = W.setCell ⟨bb, 29, none⟩ (.int .i64 0) := by
  obtain ⟨z1, z2, zf⟩ := P.zero 8 (by decide)
  have z1 : W.cell? ⟨bb, 27, none⟩ = some (.slice none 0 0) := z1
  have z2 : W.cell? ⟨bb, 29, none⟩ = some (.int .i64 0) := z2
  clear P
  go_enter Try.func83, Try.ntmps83
  go_wp2
  go_loopw [3, 4, 5, 6] (fun s3 _ _ _ wr => s3 = .int .i64 0 ∧ wr = W) (fun _ _ _ _ _ => 0)
  case atStart => exact ⟨rfl, rfl⟩
  case round =>
    obtain ⟨rfl, hw⟩ := hrel
    subst hw
    go_wp2
    go_end0
    exact ⟨rfl, rfl⟩

set_option maxHeartbeats 1000000 in
theorem growNotes_no (P : BkS W B bb vb vo D SD L1 L2 a turn done used) : Calls Try.prog 84 #[.pointer (some ⟨bb, 0, none⟩)] W fun e w' => e = .returned (.tuple #[]) ∧ w' = W.setCell ⟨bb, 32, none⟩ (.int .i64 0) := by
  obtain ⟨z1, z2, zf⟩ := P.zero 9 (by decide)
  have z1 : W.cell? ⟨bb, 30, none⟩ = some (.slice none 0 0) := z1
  have z2 : W.cell? ⟨bb, 32, none⟩ = some (.int .i64 0) := z2
  clear P
  go_enter Try.func84, Try.ntmps84
  go_wp2
  go_loopw [3, 4, 5, 6] (fun s3 _ _ _ wr => s3 = .int .i64 0 ∧ wr = W) (fun _ _ _ _ _ => 0)
  case atStart => exact ⟨rfl, rfl⟩
  case round =>
    obtain ⟨rfl, hw⟩ := hrel
    subst hw
    go_wp2
    go_end0
    exact ⟨rfl, rfl⟩

set_option maxRecDepth 100000 in
set_option maxHeartbeats 1000000 in
theorem kept_yes (P : BkS W B bb vb vo D SD L1 L2 a turn done used) : Calls Try.prog 71 #[.pointer (some ⟨bb, 0, none⟩)] W fun e w' => e = .returned (.bool true) ∧ w' = W := by
  have z1 : W.cell? ⟨bb, 6, none⟩ = some (.slice none 0 0) := (P.zero 1 (by decide)).1
  have z2 : W.cell? ⟨bb, 9, none⟩ = some (.slice none 0 0) := (P.zero 2 (by decide)).1
  have z3 : W.cell? ⟨bb, 12, none⟩ = some (.slice none 0 0) := (P.zero 3 (by decide)).1
  have z4 : W.cell? ⟨bb, 15, none⟩ = some (.slice none 0 0) := (P.zero 4 (by decide)).1
  clear P
  go_enter Try.func71, Try.ntmps71
  go_wp2
  go_loopw [3, 4] (fun s3 _ wr => s3 = .int .i64 0 ∧ wr = W) (fun _ _ _ => 0)
  case atStart => exact ⟨rfl, rfl⟩
  case round =>
    obtain ⟨rfl, hw⟩ := hrel
    subst wr
    go_wp2
    go_loopw [5, 6] (fun s5 _ wr => s5 = .int .i64 0 ∧ wr = W) (fun _ _ _ => 0)
    case atStart => exact ⟨rfl, rfl⟩
    case round =>
      obtain ⟨rfl, hw⟩ := hrel
      subst wr
      go_wp2
      go_loopw [7, 8] (fun s7 _ wr => s7 = .int .i64 0 ∧ wr = W) (fun _ _ _ => 0)
      case atStart => exact ⟨rfl, rfl⟩
      case round =>
        obtain ⟨rfl, hw⟩ := hrel
        subst wr
        go_wp2
        go_loopw [9, 10] (fun s9 _ wr => s9 = .int .i64 0 ∧ wr = W) (fun _ _ _ => 0)
        case atStart => exact ⟨rfl, rfl⟩
        case round =>
          obtain ⟨rfl, hw⟩ := hrel
          subst wr
          go_wp2
          go_ret
          exact ⟨rfl, rfl⟩

set_option maxRecDepth 100000 in
set_option maxHeartbeats 1000000 in
theorem told_yes (P : BkS W B bb vb vo D SD L1 L2 a turn done used) : Calls Try.prog 72 #[.pointer (some ⟨bb, 0, none⟩)] W fun e w' => e = .returned (.bool true) ∧ w' = W := by
  have z5 : W.cell? ⟨bb, 18, none⟩ = some (.slice none 0 0) := (P.zero 5 (by decide)).1
  have z6 : W.cell? ⟨bb, 21, none⟩ = some (.slice none 0 0) := (P.zero 6 (by decide)).1
  have z7 : W.cell? ⟨bb, 24, none⟩ = some (.slice none 0 0) := (P.zero 7 (by decide)).1
  have z8 : W.cell? ⟨bb, 27, none⟩ = some (.slice none 0 0) := (P.zero 8 (by decide)).1
  clear P
  go_enter Try.func72, Try.ntmps72
  go_wp2
  go_loopw [3, 4] (fun s3 _ wr => s3 = .int .i64 0 ∧ wr = W) (fun _ _ _ => 0)
  case atStart => exact ⟨rfl, rfl⟩
  case round =>
    obtain ⟨rfl, hw⟩ := hrel
    subst wr
    go_wp2
    go_loopw [5, 6] (fun s5 _ wr => s5 = .int .i64 0 ∧ wr = W) (fun _ _ _ => 0)
    case atStart => exact ⟨rfl, rfl⟩
    case round =>
      obtain ⟨rfl, hw⟩ := hrel
      subst wr
      go_wp2
      go_loopw [7, 8] (fun s7 _ wr => s7 = .int .i64 0 ∧ wr = W) (fun _ _ _ => 0)
      case atStart => exact ⟨rfl, rfl⟩
      case round =>
        obtain ⟨rfl, hw⟩ := hrel
        subst wr
        go_wp2
        go_loopw [9, 10] (fun s9 _ wr => s9 = .int .i64 0 ∧ wr = W) (fun _ _ _ => 0)
        case atStart => exact ⟨rfl, rfl⟩
        case round =>
          obtain ⟨rfl, hw⟩ := hrel
          subst wr
          go_wp2
          go_ret
          exact ⟨rfl, rfl⟩

set_option maxRecDepth 100000 in
set_option maxHeartbeats 1000000 in
theorem held_yes (P : BkS W B bb vb vo D SD L1 L2 a turn done used) : Calls Try.prog 73 #[.pointer (some ⟨bb, 0, none⟩)] W fun e w' => e = .returned (.bool true) ∧ w' = W := by
  have z9 : W.cell? ⟨bb, 30, none⟩ = some (.slice none 0 0) := (P.zero 9 (by decide)).1
  clear P
  go_enter Try.func73, Try.ntmps73
  go_wp2
  go_loopw [3, 4, 5] (fun s3 _ _ wr => s3 = .int .i64 0 ∧ wr = W) (fun _ _ _ _ => 0)
  case atStart => exact ⟨rfl, rfl⟩
  case round =>
    obtain ⟨rfl, hw⟩ := hrel
    subst wr
    go_wp2
    go_ret
    exact ⟨rfl, rfl⟩

end

set_option maxRecDepth 100000 in
set_option maxHeartbeats 4000000 in
theorem plain_yes {W : World} {B bb : Nat} {es : List Ent} {a turn done : Int} {S : List Nat} (hbk : BookAt W B bb es a turn done S) (ht : turn ≤ 1000000) (hl : es.length ≤ 900000) :
    Calls Try.prog 70 #[.pointer (some ⟨bb, 0, none⟩)] W fun e w' => e = .returned (.bool true) ∧ ∃ n, w' = W.drewN n := by
  obtain ⟨vb, vo, D, SD, used, P, hes, hu0, hu1, hS⟩ := hbk.ex
  have G0 : Gr W W B bb vb vo D SD es a turn done used S := ⟨P, hes, Kept.refl _ _, fun x hx => Or.inl (by rw [hS]; exact hx)⟩
  have z0 : W.cell? ⟨bb, 3, none⟩ = some (.slice none 0 0) := (P.zero 0 (by decide)).1
  obtain ⟨q0, q1, q2, q33, q34, q35, qf⟩ := P.cells
  obtain ⟨⟨ab, cb, rfl⟩, ⟨ao, co, rfl⟩⟩ := G0.form
  have HG0 : Hid (Gr W W B bb (.slice ab es.length cb) (.slice ao es.length co) D SD es a turn done used S) := G0
  have hat := fun m h0 h1 k W => at_any m h0 h1 k W
  clear P hes hS hbk G0 hu0 hu1 q2 q33 q34 q35 qf
  go_enter Try.func70, Try.ntmps70
  go_wp2
  go_loopw [3, 4] (fun s3 _ wr => ∃ i : Nat, s3 = .int .i64 i ∧ i ≤ es.length ∧ ∃ q, wr = W.drewN q) (fun s3 _ _ => es.length - (intOf s3).toNat)
  case atStart => exact ⟨0, rfl, Nat.zero_le _, 0, rfl⟩
  case round =>
    obtain ⟨i, rfl, hi, q, rfl⟩ := hrel
    by_cases hlt : i < es.length
    · have t1 : decide ((i : Int) < (es.length : Int)) = true := by simp; omega
      obtain ⟨x, hx⟩ : ∃ x, es[i]? = some x := ⟨es[i], List.getElem?_eq_getElem (by omega)⟩
      obtain ⟨gb, go, rfl, rfl, c1, c2, cc1, cc2⟩ := HG0.out.at hx
      have hxe := HG0.out.ent x (List.mem_of_getElem? hx)
      obtain ⟨av, cv, hxv⟩ : ∃ av cv, x.v = .slice av x.n cv := by
        rcases hxe.1 with ⟨h1, h2⟩ | ⟨g, cap, ext, h1, _⟩
        · exact ⟨none, 0, by rw [h1, h2]⟩
        · exact ⟨_, _, h1⟩
      rw [hxv] at c1
      have hby := (hxe.1.own HG0.out.bk.blk).bytes
      rw [hxv] at hby
      have hHB : Hid (0 < x.n → ∃ g o, av = some ⟨g, o, none⟩ ∧ ∀ k, k < x.n → W.cell? ⟨g, o + k, none⟩ = some (.int .u8 (atM x.m k))) := fun hp => by
        obtain ⟨ao', cap', he, _, _, hc⟩ := hby
        rw [marks_len] at he
        injection he with e1 e2 e3
        subst e1
        obtain ⟨g, o, rfl, hh⟩ := hc (by intro e; have := congrArg List.length e; rw [marks_len] at this; simp at this; omega)
        exact ⟨g, o, rfl, fun k hk => hh k _ (marks_get _ _ _ hk)⟩
      have hxm : x.n ≤ 9223372036854775807 := by
        rcases hxe.1 with ⟨_, h2⟩ | ⟨g, cap, ext, _, h2, h3⟩
        · omega
        · obtain ⟨_, _, _, e1, e2, _⟩ := HG0.out.bk.blk.row g _ h2
          dsimp only at e1 e2
          unfold maxLen at e2
          omega
      have hm0 := hxe.2.1
      have hm1 := hxe.2.2
      have i0 : (0 : Int) ≤ i := by omega
      have i1 : (i : Int) < es.length := by omega
      clear hxe hxv hx hby
      generalize x.m = m at *
      generalize x.n = xn at *
      go_wp2
      go_loopw [4] (fun s4 wq => ∃ k : Nat, s4 = .int .i64 k ∧ k ≤ xn ∧ ∃ q, wq = W.drewN q) (fun s4 _ => xn - (intOf s4).toNat)
      case atStart => exact ⟨0, rfl, Nat.zero_le _, _, rfl⟩
      case round =>
        obtain ⟨k, rfl, hk, q2, hw⟩ := hrel
        have HW : Hid (wr = W.drewN q2) := hw
        have p0 : wr.cell? ⟨bb, 0, none⟩ = some (.slice (some ⟨gb, 0, none⟩) es.length cb) := by rw [hw]; exact q0
        have p1 : wr.cell? ⟨bb, 1, none⟩ = some (.slice (some ⟨go, 0, none⟩) es.length co) := by rw [hw]; exact q1
        have d1 : wr.cell? ⟨gb, i, none⟩ = some (.slice av xn cv) := by rw [hw]; exact c1
        have d2 : wr.cell? ⟨go, i, none⟩ = some (.int .i64 m) := by rw [hw]; exact c2
        clear hw
        by_cases hkl : k < xn
        · have t2 : decide ((k : Int) < (xn : Int)) = true := by simp; omega
          obtain ⟨g, o, rfl, hc⟩ := hHB.out (by omega)
          have ck : wr.cell? ⟨g, o + k, none⟩ = some (.int .u8 (atM m k)) := by rw [HW.out]; exact hc k hkl
          have hatk := hat m hm0 (by omega) k
          have k0 : (0 : Int) ≤ k := by omega
          have k1 : (k : Int) < xn := by omega
          clear hc
          generalize atM m k = u at *
          go_wp2
          go_quiet (first | (go_at_call 67; exact Calls.quiet_of_same (hatk _)))
          go_wp2
          go_roundw
          case rel => exact ⟨k + 1, by go_num, by omega, by rw [HW.out]; exact drew_sum _ _ _⟩
          case measure => simp [intOf]; omega
        · have t2 : decide ((k : Int) < (xn : Int)) = false := by simp; omega
          go_wp2
          go_roundw
          case rel => exact ⟨i + 1, by go_num, by omega, q2, HW.out⟩
          case measure => simp [intOf]; omega
    · have t1 : decide ((i : Int) < (es.length : Int)) = false := by simp; omega
      go_wp2
      go_loopw [5, 6] (fun s5 _ wr => s5 = .int .i64 0 ∧ wr = W.drewN q) (fun _ _ _ => 0)
      case atStart => exact ⟨rfl, rfl⟩
      case round =>
        obtain ⟨rfl, hw⟩ := hrel
        subst hw
        go_wp2
        go_ret
        exact ⟨rfl, _, rfl⟩


theorem Bk.on0 {W W' : World} {B bb : Nat} {es : List Ent} {a turn : Nat} {done : Int} {S : List Nat} (h : Bk W B bb es a turn done S) (k : Kept [] W W') : Bk W' B bb es a turn done S := h.on k (fun _ _ => by simp)
set_option maxHeartbeats 1000000 in
theorem holds_yes {W : World} {B bb : Nat} {es : List Ent} {a turn : Nat} {done : Int} {S : List Nat} (hbk : Bk W B bb es a turn done S) (ht : turn ≤ 5000) :
    Calls Try.prog 48 #[.pointer (some ⟨bb, 0, none⟩)] W fun e w' => e = .returned (.bool true) ∧ Kept [] W w' := by
  have h1 := hbk.len
  have hp := plain_yes hbk.bk (by omega) (by omega)
  have HK : Hid (∀ n, Bk (W.drewN n) B bb es a turn done S) := fun n => hbk.on0 ((Kept.refl _ _).drewN n)
  clear hbk h1
  go_enter Try.func48, Try.ntmps48
  go_wp2_with fail
  go_at_call 70
  refine hp.mono ?_
  rintro e w1 ⟨rfl, n, rfl⟩
  obtain ⟨vb, vo, D, SD, used, P, _⟩ := (HK.out n).bk.ex
  have hk := kept_yes P
  have ht := told_yes P
  have hh := held_yes P
  clear hp P HK
  have HW : Hid (Kept [] W (W.drewN n)) := (Kept.refl _ _).drewN n
  generalize W.drewN n = w1 at *
  go_wp2_with fail
  go_at_call 71
  refine hk.mono ?_
  rintro e w2 ⟨rfl, hw2⟩
  subst w2
  go_wp2_with fail
  go_at_call 72
  refine ht.mono ?_
  rintro e w2 ⟨rfl, hw2⟩
  subst w2
  go_wp2_with fail
  go_at_call 73
  refine hh.mono ?_
  rintro e w2 ⟨rfl, hw2⟩
  subst w2
  go_wp2
  go_ret
  exact ⟨rfl, HW.out⟩
/-- A number of the book laid anew. -/
theorem Bk.num {W : World} {B bb : Nat} {es : List Ent} {a turn : Nat} {done done' : Int} {S : List Nat} (h : Bk W B bb es a turn done S) (i : Nat) (v : Value) (hb : ∀ vb vo used, (bookC vb vo a turn done used).setIfInBounds i v = bookC vb vo a turn done' used) : Bk (W.setCell ⟨bb, i, none⟩ v) B bb es a turn done' S ∧ Kept S W (W.setCell ⟨bb, i, none⟩ v) := by
  obtain ⟨vb, vo, D, SD, used, P, h1, h2, h3, hS⟩ := h.bk.ex
  refine ⟨⟨⟨vb, vo, D, SD, used, P.num i v (hb _ _ _), h1, h2, h3, hS⟩, h.le, h.len, h.pend⟩, (Kept.refl S W).setCell (p := ⟨bb, i, none⟩) (Or.inl ?_) _⟩
  rw [hS]
  simp [footB]
theorem Bk.ex {W : World} {B bb : Nat} {es : List Ent} {a turn : Nat} {done : Int} {S : List Nat} (h : Bk W B bb es a turn done S) : ∃ vb vo D SD used, BkS W B bb vb vo D SD (es.map Ent.v) (es.map fun x => Value.int .i64 x.m) a turn done used := by
  obtain ⟨vb, vo, D, SD, used, P, _⟩ := h.bk.ex
  exact ⟨vb, vo, D, SD, used, P⟩

set_option maxRecDepth 100000 in
set_option maxHeartbeats 4000000 in
theorem grow_any {W : World} {B bb : Nat} {es : List Ent} {a turn : Nat} {done : Int} {S : List Nat} (hbk : Bk W B bb es a turn done S) (ht : turn ≤ 5000) (hB : B ≤ W.heap.size) :
    Calls Try.prog 49 #[.pointer (some ⟨bb, 0, none⟩)] W fun e w' => e = .returned (.tuple #[]) ∧ GrewB W w' B bb turn turn S := by
  have hg := growBytes_any hbk ht hB
  clear hbk
  go_enter Try.func49, Try.ntmps49
  go_wp2_with fail
  go_at_call 74
  refine hg.mono ?_
  rintro e w0 ⟨rfl, es', a', S', B0, kk, hf⟩
  have HB0 : Hid (Bk w0 B bb es' a' turn done S') := B0
  have HK0 : Hid (Kept S W w0 ∧ (∀ x, x ∈ S' → x ∈ S ∨ W.heap.size ≤ x)) := ⟨kk, hf⟩
  obtain ⟨vb, vo, D, SD, used, P⟩ := B0.ex
  have hc := growRows_no P
  clear hg B0 kk hf P
  go_wp2_with fail
  go_at_call 75
  refine hc.mono ?_
  rintro e w1 ⟨rfl, hw⟩
  obtain ⟨Bn, kn⟩ := HB0.out.num 5 (.int .i64 0) (done' := done) (fun _ _ _ => rfl)
  rw [← hw] at Bn kn
  have HB1 : Hid (Bk w1 B bb es' a' turn done S') := Bn
  have HK1 : Hid (Kept S W w1 ∧ (∀ x, x ∈ S' → x ∈ S ∨ W.heap.size ≤ x)) := ⟨HK0.out.1.trans kn HK0.out.2, HK0.out.2⟩
  obtain ⟨vb, vo, D, SD, used, P⟩ := Bn.ex
  have hc := growIds_no P
  clear P hw Bn kn HB0 HK0
  go_wp2_with fail
  go_at_call 76
  refine hc.mono ?_
  rintro e w2 ⟨rfl, hw⟩
  obtain ⟨Bn, kn⟩ := HB1.out.num 8 (.int .i64 0) (done' := done) (fun _ _ _ => rfl)
  rw [← hw] at Bn kn
  have HB2 : Hid (Bk w2 B bb es' a' turn done S') := Bn
  have HK2 : Hid (Kept S W w2 ∧ (∀ x, x ∈ S' → x ∈ S ∨ W.heap.size ≤ x)) := ⟨HK1.out.1.trans kn HK1.out.2, HK1.out.2⟩
  obtain ⟨vb, vo, D, SD, used, P⟩ := Bn.ex
  have hc := growTexts_no P
  clear P hw Bn kn HB1 HK1
  go_wp2_with fail
  go_at_call 77
  refine hc.mono ?_
  rintro e w3 ⟨rfl, hw⟩
  obtain ⟨Bn, kn⟩ := HB2.out.num 11 (.int .i64 0) (done' := done) (fun _ _ _ => rfl)
  rw [← hw] at Bn kn
  have HB3 : Hid (Bk w3 B bb es' a' turn done S') := Bn
  have HK3 : Hid (Kept S W w3 ∧ (∀ x, x ∈ S' → x ∈ S ∨ W.heap.size ≤ x)) := ⟨HK2.out.1.trans kn HK2.out.2, HK2.out.2⟩
  obtain ⟨vb, vo, D, SD, used, P⟩ := Bn.ex
  have hc := growRefs_no P
  clear P hw Bn kn HB2 HK2
  go_wp2_with fail
  go_at_call 78
  refine hc.mono ?_
  rintro e w4 ⟨rfl, hw⟩
  obtain ⟨Bn, kn⟩ := HB3.out.num 14 (.int .i64 0) (done' := done) (fun _ _ _ => rfl)
  rw [← hw] at Bn kn
  have HB4 : Hid (Bk w4 B bb es' a' turn done S') := Bn
  have HK4 : Hid (Kept S W w4 ∧ (∀ x, x ∈ S' → x ∈ S ∨ W.heap.size ≤ x)) := ⟨HK3.out.1.trans kn HK3.out.2, HK3.out.2⟩
  obtain ⟨vb, vo, D, SD, used, P⟩ := Bn.ex
  have hc := growStamps_no P
  clear P hw Bn kn HB3 HK3
  go_wp2_with fail
  go_at_call 79
  refine hc.mono ?_
  rintro e w5 ⟨rfl, hw⟩
  obtain ⟨Bn, kn⟩ := HB4.out.num 17 (.int .i64 0) (done' := done) (fun _ _ _ => rfl)
  rw [← hw] at Bn kn
  have HB5 : Hid (Bk w5 B bb es' a' turn done S') := Bn
  have HK5 : Hid (Kept S W w5 ∧ (∀ x, x ∈ S' → x ∈ S ∨ W.heap.size ≤ x)) := ⟨HK4.out.1.trans kn HK4.out.2, HK4.out.2⟩
  obtain ⟨vb, vo, D, SD, used, P⟩ := Bn.ex
  have hc := growMoves_no P
  clear P hw Bn kn HB4 HK4
  go_wp2_with fail
  go_at_call 80
  refine hc.mono ?_
  rintro e w6 ⟨rfl, hw⟩
  obtain ⟨Bn, kn⟩ := HB5.out.num 20 (.int .i64 0) (done' := done) (fun _ _ _ => rfl)
  rw [← hw] at Bn kn
  have HB6 : Hid (Bk w6 B bb es' a' turn done S') := Bn
  have HK6 : Hid (Kept S W w6 ∧ (∀ x, x ∈ S' → x ∈ S ∨ W.heap.size ≤ x)) := ⟨HK5.out.1.trans kn HK5.out.2, HK5.out.2⟩
  obtain ⟨vb, vo, D, SD, used, P⟩ := Bn.ex
  have hc := growLinks_no P
  clear P hw Bn kn HB5 HK5
  go_wp2_with fail
  go_at_call 81
  refine hc.mono ?_
  rintro e w7 ⟨rfl, hw⟩
  obtain ⟨Bn, kn⟩ := HB6.out.num 23 (.int .i64 0) (done' := done) (fun _ _ _ => rfl)
  rw [← hw] at Bn kn
  have HB7 : Hid (Bk w7 B bb es' a' turn done S') := Bn
  have HK7 : Hid (Kept S W w7 ∧ (∀ x, x ∈ S' → x ∈ S ∨ W.heap.size ≤ x)) := ⟨HK6.out.1.trans kn HK6.out.2, HK6.out.2⟩
  obtain ⟨vb, vo, D, SD, used, P⟩ := Bn.ex
  have hc := growFiles_no P
  clear P hw Bn kn HB6 HK6
  go_wp2_with fail
  go_at_call 82
  refine hc.mono ?_
  rintro e w8 ⟨rfl, hw⟩
  obtain ⟨Bn, kn⟩ := HB7.out.num 26 (.int .i64 0) (done' := done) (fun _ _ _ => rfl)
  rw [← hw] at Bn kn
  have HB8 : Hid (Bk w8 B bb es' a' turn done S') := Bn
  have HK8 : Hid (Kept S W w8 ∧ (∀ x, x ∈ S' → x ∈ S ∨ W.heap.size ≤ x)) := ⟨HK7.out.1.trans kn HK7.out.2, HK7.out.2⟩
  obtain ⟨vb, vo, D, SD, used, P⟩ := Bn.ex
  have hc := growEntries_no P
  clear P hw Bn kn HB7 HK7
  go_wp2_with fail
  go_at_call 83
  refine hc.mono ?_
  rintro e w9 ⟨rfl, hw⟩
  obtain ⟨Bn, kn⟩ := HB8.out.num 29 (.int .i64 0) (done' := done) (fun _ _ _ => rfl)
  rw [← hw] at Bn kn
  have HB9 : Hid (Bk w9 B bb es' a' turn done S') := Bn
  have HK9 : Hid (Kept S W w9 ∧ (∀ x, x ∈ S' → x ∈ S ∨ W.heap.size ≤ x)) := ⟨HK8.out.1.trans kn HK8.out.2, HK8.out.2⟩
  obtain ⟨vb, vo, D, SD, used, P⟩ := Bn.ex
  have hc := growNotes_no P
  clear P hw Bn kn HB8 HK8
  go_wp2_with fail
  go_at_call 84
  refine hc.mono ?_
  rintro e w10 ⟨rfl, hw⟩
  obtain ⟨Bn, kn⟩ := HB9.out.num 32 (.int .i64 0) (done' := done) (fun _ _ _ => rfl)
  rw [← hw] at Bn kn
  have HB10 : Hid (Bk w10 B bb es' a' turn done S') := Bn
  have HK10 : Hid (Kept S W w10 ∧ (∀ x, x ∈ S' → x ∈ S ∨ W.heap.size ≤ x)) := ⟨HK9.out.1.trans kn HK9.out.2, HK9.out.2⟩
  clear hw Bn kn HB9 HK9 hc
  obtain ⟨vb, vo, D, SD, used, P⟩ := HB10.out.ex
  obtain ⟨_, _, _, q33, q34, _, qf⟩ := P.cells
  obtain ⟨B11, k11⟩ := HB10.out.num 34 (.int .i64 turn) (done' := (turn : Int)) (fun _ _ _ => rfl)
  have HF : Hid (GrewB W (w10.setCell ⟨bb, 34, none⟩ (.int .i64 turn)) B bb turn turn S) := ⟨es', a', S', B11, HK10.out.1.trans k11 HK10.out.2, HK10.out.2⟩
  clear P B11 k11
  go_wp2
  go_end0
  exact ⟨rfl, HF.out⟩

structure LookedB (W W' : World) (B bb : Nat) (turn : Nat) (S : List Nat) : Prop where
  ex : ∃ es a done S', Bk W' B bb es a turn done S' ∧ Kept S W W' ∧ (∀ x, x ∈ S' → x ∈ S ∨ W.heap.size ≤ x)
set_option maxRecDepth 100000 in
set_option maxHeartbeats 4000000 in
theorem Look_any' {W : World} {B bb : Nat} {es : List Ent} {a turn : Nat} {done : Int} {S : List Nat} (hbk : Bk W B bb es a turn done S) (ht : turn ≤ 5000) (hB : B ≤ W.heap.size) :
    Calls Try.prog 18 #[.pointer (some ⟨bb, 0, none⟩)] W fun e w' => e = .returned (.bool true) ∧ LookedB W w' B bb turn S := by
  have hh := holds_yes hbk ht
  have HBK : Hid (Bk W B bb es a turn done S) := hbk
  clear hbk
  go_enter Try.func18, Try.ntmps18
  go_wp2_with fail
  go_at_call 48
  refine hh.mono ?_
  rintro e w1 ⟨rfl, k1⟩
  have HB1 : Hid (Bk w1 B bb es a turn done S) := HBK.out.on0 k1
  have HK1 : Hid (Kept [] W w1) := k1
  obtain ⟨vb, vo, D, SD, used, P⟩ := HB1.out.ex
  obtain ⟨_, _, _, q33, q34, _, qf⟩ := P.cells
  clear hh k1 HBK P
  by_cases hd : done = turn
  · have e1 : (done == (turn : Int)) = true := by simpa using hd
    clear hd
    go_wp2
    go_quiet (fail)
    go_wp2
    go_ret
    exact ⟨rfl, ⟨es, a, done, S, HB1.out.on0 ((Kept.refl [] w1).drewN _), (HK1.out.drewN _).more (by simp), fun x hx => Or.inl hx⟩⟩
  · have e1 : (done == (turn : Int)) = false := by simpa using hd
    clear hd
    go_wp2_with fail
    go_quiet (fail)
    have HB2 : Hid (Bk (w1.drewN nq) B bb es a turn done S) := HB1.out.on0 ((Kept.refl [] w1).drewN _)
    have HK2 : Hid (Kept [] W (w1.drewN nq)) := HK1.out.drewN _
    clear HB1 HK1 q33 q34 qf
    generalize w1.drewN nq = w2 at *
    have hg := grow_any HB2.out ht (by have := HK2.out.size; omega)
    go_wp2_with fail
    go_at_call 49
    refine hg.mono ?_
    rintro e w3 ⟨rfl, es', a', S', B3, kk, hf⟩
    have hh := holds_yes B3 ht
    have HB3 : Hid (Bk w3 B bb es' a' turn turn S') := B3
    have s2 := HK2.out.size
    have HK3 : Hid (Kept S W w3 ∧ (∀ x, x ∈ S' → x ∈ S ∨ W.heap.size ≤ x)) := ⟨(HK2.out.more (by simp)).then kk, fun x hx => (hf x hx).imp id (fun h => by omega)⟩
    clear hg B3 kk hf
    go_wp2_with fail
    go_at_call 48
    refine hh.mono ?_
    rintro e w4 ⟨rfl, k4⟩
    have HF : Hid (LookedB W w4 B bb turn S) := ⟨es', a', (turn : Int), S', HB3.out.on0 k4, HK3.out.1.trans k4 (by simp), HK3.out.2⟩
    clear hh k4
    go_wp2
    go_ret
    exact ⟨rfl, HF.out⟩

end Go.Proofs.Ytldhbcppnoldiaa
