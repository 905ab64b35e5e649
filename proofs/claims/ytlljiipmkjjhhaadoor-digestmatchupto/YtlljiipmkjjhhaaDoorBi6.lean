/-
  WALKS: (*satchellaw1.Book).plain, kept, told, held, holds, grow, Look: of a book that holds lists of ids alone.
-/
import Derived.Test.YtlljiipmkjjhhaaDoorBi5
import Derived.Test.YtlljiipmkjjhhaaDoorHex1
import Derived.Deep.QuietTactic
namespace Go.Proofs.YtlljiipmkjjhhaaDoor
open Go.RowKit

theorem equal_same (m : Int) (W : World) : (Op.equalIn 10000 24 (.agg ((idM m).map (Value.int .u8)).toArray) (.agg ((idM m).map (Value.int .u8)).toArray)).run Tryd.prog W = .ok true W := by
  have h := idEq (idM m) (idM m) W (idM_good m).1 (idM_good m).1
  rw [decide_eq_true rfl] at h
  exact h
section
variable {W : World} {B bb : Nat} {vb vo : Value} {D : Nat → Option MB} {SD : List Nat} {L1 L2 : List Value} {a turn done used : Int}
theorem BkI.zero (P : BkI W B bb vb vo D SD L1 L2 a turn done used) (p : Nat) (hp : p ∈ [0, 3, 9, 12, 15, 18, 21, 24, 27, 30]) : W.cell? ⟨bb, p, none⟩ = some (.slice none 0 0) ∧ W.cell? ⟨bb, p + 2, none⟩ = some (.int .i64 0) ∧ ∀ o, W.frozen? ⟨bb, o, none⟩ = false := by
  obtain ⟨h1, h2, _⟩ := own_facts P.box
  simp only [List.mem_cons, List.not_mem_nil, or_false] at hp
  rcases hp with rfl | rfl | rfl | rfl | rfl | rfl | rfl | rfl | rfl | rfl <;> exact ⟨(h1 _).trans rfl, (h1 _).trans rfl, h2⟩

set_option maxHeartbeats 1000000 in
theorem growBytesI_no (P : BkI W B bb vb vo D SD L1 L2 a turn done used) : Calls Tryd.prog 44 #[.pointer (some ⟨bb, 0, none⟩)] W fun e w' => e = .returned (.tuple #[]) ∧ w' = W.setCell ⟨bb, 2, none⟩ (.int .i64 0) := by
  obtain ⟨z1, z2, zf⟩ := P.zero 0 (by simp)
  have z1 : W.cell? ⟨bb, 0, none⟩ = some (.slice none 0 0) := z1
  have z2 : W.cell? ⟨bb, 2, none⟩ = some (.int .i64 0) := z2
  clear P
  go_enter Tryd.func44, Tryd.ntmps44
  go_wp2
  go_loopw [3, 4, 5, 6] (fun s3 _ _ _ wr => s3 = .int .i64 0 ∧ wr = W) (fun _ _ _ _ _ => 0)
  case atStart => exact ⟨rfl, rfl⟩
  case round =>
    obtain ⟨rfl, hw⟩ := hrel
    subst hw
    go_wp2
    go_end0
    exact ⟨rfl, rfl⟩

set_option maxHeartbeats 1000000 in
theorem growRowsI_no (P : BkI W B bb vb vo D SD L1 L2 a turn done used) : Calls Tryd.prog 45 #[.pointer (some ⟨bb, 0, none⟩)] W fun e w' => e = .returned (.tuple #[]) ∧ w' = W.setCell ⟨bb, 5, none⟩ (.int .i64 0) := by
  obtain ⟨z1, z2, zf⟩ := P.zero 3 (by simp)
  have z1 : W.cell? ⟨bb, 3, none⟩ = some (.slice none 0 0) := z1
  have z2 : W.cell? ⟨bb, 5, none⟩ = some (.int .i64 0) := z2
  clear P
  go_enter Tryd.func45, Tryd.ntmps45
  go_wp2
  go_loopw [3, 4, 5, 6] (fun s3 _ _ _ wr => s3 = .int .i64 0 ∧ wr = W) (fun _ _ _ _ _ => 0)
  case atStart => exact ⟨rfl, rfl⟩
  case round =>
    obtain ⟨rfl, hw⟩ := hrel
    subst hw
    go_wp2
    go_end0
    exact ⟨rfl, rfl⟩

set_option maxHeartbeats 1000000 in
theorem growTextsI_no (P : BkI W B bb vb vo D SD L1 L2 a turn done used) : Calls Tryd.prog 47 #[.pointer (some ⟨bb, 0, none⟩)] W fun e w' => e = .returned (.tuple #[]) ∧ w' = W.setCell ⟨bb, 11, none⟩ (.int .i64 0) := by
  obtain ⟨z1, z2, zf⟩ := P.zero 9 (by simp)
  have z1 : W.cell? ⟨bb, 9, none⟩ = some (.slice none 0 0) := z1
  have z2 : W.cell? ⟨bb, 11, none⟩ = some (.int .i64 0) := z2
  clear P
  go_enter Tryd.func47, Tryd.ntmps47
  go_wp2
  go_loopw [3, 4, 5, 6] (fun s3 _ _ _ wr => s3 = .int .i64 0 ∧ wr = W) (fun _ _ _ _ _ => 0)
  case atStart => exact ⟨rfl, rfl⟩
  case round =>
    obtain ⟨rfl, hw⟩ := hrel
    subst hw
    go_wp2
    go_end0
    exact ⟨rfl, rfl⟩

set_option maxHeartbeats 1000000 in
theorem growRefsI_no (P : BkI W B bb vb vo D SD L1 L2 a turn done used) : Calls Tryd.prog 48 #[.pointer (some ⟨bb, 0, none⟩)] W fun e w' => e = .returned (.tuple #[]) ∧ w' = W.setCell ⟨bb, 14, none⟩ (.int .i64 0) := by
  obtain ⟨z1, z2, zf⟩ := P.zero 12 (by simp)
  have z1 : W.cell? ⟨bb, 12, none⟩ = some (.slice none 0 0) := z1
  have z2 : W.cell? ⟨bb, 14, none⟩ = some (.int .i64 0) := z2
  clear P
  go_enter Tryd.func48, Tryd.ntmps48
  go_wp2
  go_loopw [3, 4, 5, 6] (fun s3 _ _ _ wr => s3 = .int .i64 0 ∧ wr = W) (fun _ _ _ _ _ => 0)
  case atStart => exact ⟨rfl, rfl⟩
  case round =>
    obtain ⟨rfl, hw⟩ := hrel
    subst hw
    go_wp2
    go_end0
    exact ⟨rfl, rfl⟩

set_option maxHeartbeats 1000000 in
theorem growStampsI_no (P : BkI W B bb vb vo D SD L1 L2 a turn done used) : Calls Tryd.prog 49 #[.pointer (some ⟨bb, 0, none⟩)] W fun e w' => e = .returned (.tuple #[]) ∧ w' = W.setCell ⟨bb, 17, none⟩ (.int .i64 0) := by
  obtain ⟨z1, z2, zf⟩ := P.zero 15 (by simp)
  have z1 : W.cell? ⟨bb, 15, none⟩ = some (.slice none 0 0) := z1
  have z2 : W.cell? ⟨bb, 17, none⟩ = some (.int .i64 0) := z2
  clear P
  go_enter Tryd.func49, Tryd.ntmps49
  go_wp2
  go_loopw [3, 4, 5, 6] (fun s3 _ _ _ wr => s3 = .int .i64 0 ∧ wr = W) (fun _ _ _ _ _ => 0)
  case atStart => exact ⟨rfl, rfl⟩
  case round =>
    obtain ⟨rfl, hw⟩ := hrel
    subst hw
    go_wp2
    go_end0
    exact ⟨rfl, rfl⟩

set_option maxHeartbeats 1000000 in
theorem growMovesI_no (P : BkI W B bb vb vo D SD L1 L2 a turn done used) : Calls Tryd.prog 50 #[.pointer (some ⟨bb, 0, none⟩)] W fun e w' => e = .returned (.tuple #[]) ∧ w' = W.setCell ⟨bb, 20, none⟩ (.int .i64 0) := by
  obtain ⟨z1, z2, zf⟩ := P.zero 18 (by simp)
  have z1 : W.cell? ⟨bb, 18, none⟩ = some (.slice none 0 0) := z1
  have z2 : W.cell? ⟨bb, 20, none⟩ = some (.int .i64 0) := z2
  clear P
  go_enter Tryd.func50, Tryd.ntmps50
  go_wp2
  go_loopw [3, 4, 5, 6] (fun s3 _ _ _ wr => s3 = .int .i64 0 ∧ wr = W) (fun _ _ _ _ _ => 0)
  case atStart => exact ⟨rfl, rfl⟩
  case round =>
    obtain ⟨rfl, hw⟩ := hrel
    subst hw
    go_wp2
    go_end0
    exact ⟨rfl, rfl⟩

set_option maxHeartbeats 1000000 in
theorem growLinksI_no (P : BkI W B bb vb vo D SD L1 L2 a turn done used) : Calls Tryd.prog 51 #[.pointer (some ⟨bb, 0, none⟩)] W fun e w' => e = .returned (.tuple #[]) ∧ w' = W.setCell ⟨bb, 23, none⟩ (.int .i64 0) := by
  obtain ⟨z1, z2, zf⟩ := P.zero 21 (by simp)
  have z1 : W.cell? ⟨bb, 21, none⟩ = some (.slice none 0 0) := z1
  have z2 : W.cell? ⟨bb, 23, none⟩ = some (.int .i64 0) := z2
  clear P
  go_enter Tryd.func51, Tryd.ntmps51
  go_wp2
  go_loopw [3, 4, 5, 6] (fun s3 _ _ _ wr => s3 = .int .i64 0 ∧ wr = W) (fun _ _ _ _ _ => 0)
  case atStart => exact ⟨rfl, rfl⟩
  case round =>
    obtain ⟨rfl, hw⟩ := hrel
    subst hw
    go_wp2
    go_end0
    exact ⟨rfl, rfl⟩

set_option maxHeartbeats 1000000 in
theorem growFilesI_no (P : BkI W B bb vb vo D SD L1 L2 a turn done used) : Calls Tryd.prog 52 #[.pointer (some ⟨bb, 0, none⟩)] W fun e w' => e = .returned (.tuple #[]) ∧ w' = W.setCell ⟨bb, 26, none⟩ (.int .i64 0) := by
  obtain ⟨z1, z2, zf⟩ := P.zero 24 (by simp)
  have z1 : W.cell? ⟨bb, 24, none⟩ = some (.slice none 0 0) := z1
  have z2 : W.cell? ⟨bb, 26, none⟩ = some (.int .i64 0) := z2
  clear P
  go_enter Tryd.func52, Tryd.ntmps52
  go_wp2
  go_loopw [3, 4, 5, 6] (fun s3 _ _ _ wr => s3 = .int .i64 0 ∧ wr = W) (fun _ _ _ _ _ => 0)
  case atStart => exact ⟨rfl, rfl⟩
  case round =>
    obtain ⟨rfl, hw⟩ := hrel
    subst hw
    go_wp2
    go_end0
    exact ⟨rfl, rfl⟩

set_option maxHeartbeats 1000000 in
theorem growEntriesI_no (P : BkI W B bb vb vo D SD L1 L2 a turn done used) : Calls Tryd.prog 53 #[.pointer (some ⟨bb, 0, none⟩)] W fun e w' => e = .returned (.tuple #[]) ∧ w' = W.setCell ⟨bb, 29, none⟩ (.int .i64 0) := by
  obtain ⟨z1, z2, zf⟩ := P.zero 27 (by simp)
  have z1 : W.cell? ⟨bb, 27, none⟩ = some (.slice none 0 0) := z1
  have z2 : W.cell? ⟨bb, 29, none⟩ = some (.int .i64 0) := z2
  clear P
  go_enter Tryd.func53, Tryd.ntmps53
  go_wp2
  go_loopw [3, 4, 5, 6] (fun s3 _ _ _ wr => s3 = .int .i64 0 ∧ wr = W) (fun _ _ _ _ _ => 0)
  case atStart => exact ⟨rfl, rfl⟩
  case round =>
    obtain ⟨rfl, hw⟩ := hrel
    subst hw
    go_wp2
    go_end0
    exact ⟨rfl, rfl⟩

set_option maxHeartbeats 1000000 in
theorem growNotesI_no (P : BkI W B bb vb vo D SD L1 L2 a turn done used) : Calls Tryd.prog 54 #[.pointer (some ⟨bb, 0, none⟩)] W fun e w' => e = .returned (.tuple #[]) ∧ w' = W.setCell ⟨bb, 32, none⟩ (.int .i64 0) := by
  obtain ⟨z1, z2, zf⟩ := P.zero 30 (by simp)
  have z1 : W.cell? ⟨bb, 30, none⟩ = some (.slice none 0 0) := z1
  have z2 : W.cell? ⟨bb, 32, none⟩ = some (.int .i64 0) := z2
  clear P
  go_enter Tryd.func54, Tryd.ntmps54
  go_wp2
  go_loopw [3, 4, 5, 6] (fun s3 _ _ _ wr => s3 = .int .i64 0 ∧ wr = W) (fun _ _ _ _ _ => 0)
  case atStart => exact ⟨rfl, rfl⟩
  case round =>
    obtain ⟨rfl, hw⟩ := hrel
    subst hw
    go_wp2
    go_end0
    exact ⟨rfl, rfl⟩

set_option maxRecDepth 100000 in
set_option maxHeartbeats 1000000 in
theorem plainI_yes (P : BkI W B bb vb vo D SD L1 L2 a turn done used) : Calls Tryd.prog 40 #[.pointer (some ⟨bb, 0, none⟩)] W fun e w' => e = .returned (.bool true) ∧ w' = W := by
  have z1 : W.cell? ⟨bb, 0, none⟩ = some (.slice none 0 0) := (P.zero 0 (by simp)).1
  have z2 : W.cell? ⟨bb, 3, none⟩ = some (.slice none 0 0) := (P.zero 3 (by simp)).1
  clear P
  go_enter Tryd.func40, Tryd.ntmps40
  go_wp2
  go_loopw [3, 4] (fun s3 _ wr => s3 = .int .i64 0 ∧ wr = W) (fun _ _ _ => 0)
  case atStart => exact ⟨rfl, rfl⟩
  case round =>
    obtain ⟨rfl, hw⟩ := hrel
    subst wr
    go_wp2
    go_loopw [5, 6] (fun s5 _ wr => s5 = .int .i64 0 ∧ wr = W) (fun _ _ _ => 0)
    case atStart => exact ⟨rfl, rfl⟩
    case round =>
      obtain ⟨rfl, hw⟩ := hrel
      subst wr
      go_wp2
      go_ret
      exact ⟨rfl, rfl⟩

set_option maxRecDepth 100000 in
set_option maxHeartbeats 1000000 in
theorem toldI_yes (P : BkI W B bb vb vo D SD L1 L2 a turn done used) : Calls Tryd.prog 42 #[.pointer (some ⟨bb, 0, none⟩)] W fun e w' => e = .returned (.bool true) ∧ w' = W := by
  have z5 : W.cell? ⟨bb, 18, none⟩ = some (.slice none 0 0) := (P.zero 18 (by simp)).1
  have z6 : W.cell? ⟨bb, 21, none⟩ = some (.slice none 0 0) := (P.zero 21 (by simp)).1
  have z7 : W.cell? ⟨bb, 24, none⟩ = some (.slice none 0 0) := (P.zero 24 (by simp)).1
  have z8 : W.cell? ⟨bb, 27, none⟩ = some (.slice none 0 0) := (P.zero 27 (by simp)).1
  clear P
  go_enter Tryd.func42, Tryd.ntmps42
  go_wp2
  go_loopw [3, 4] (fun s3 _ wr => s3 = .int .i64 0 ∧ wr = W) (fun _ _ _ => 0)
  case atStart => exact ⟨rfl, rfl⟩
  case round =>
    obtain ⟨rfl, hw⟩ := hrel
    subst wr
    go_wp2
    go_loopw [5, 6] (fun s5 _ wr => s5 = .int .i64 0 ∧ wr = W) (fun _ _ _ => 0)
    case atStart => exact ⟨rfl, rfl⟩
    case round =>
      obtain ⟨rfl, hw⟩ := hrel
      subst wr
      go_wp2
      go_loopw [7, 8] (fun s7 _ wr => s7 = .int .i64 0 ∧ wr = W) (fun _ _ _ => 0)
      case atStart => exact ⟨rfl, rfl⟩
      case round =>
        obtain ⟨rfl, hw⟩ := hrel
        subst wr
        go_wp2
        go_loopw [9, 10] (fun s9 _ wr => s9 = .int .i64 0 ∧ wr = W) (fun _ _ _ => 0)
        case atStart => exact ⟨rfl, rfl⟩
        case round =>
          obtain ⟨rfl, hw⟩ := hrel
          subst wr
          go_wp2
          go_ret
          exact ⟨rfl, rfl⟩

set_option maxRecDepth 100000 in
set_option maxHeartbeats 1000000 in
theorem heldI_yes (P : BkI W B bb vb vo D SD L1 L2 a turn done used) : Calls Tryd.prog 43 #[.pointer (some ⟨bb, 0, none⟩)] W fun e w' => e = .returned (.bool true) ∧ w' = W := by
  have z9 : W.cell? ⟨bb, 30, none⟩ = some (.slice none 0 0) := (P.zero 30 (by simp)).1
  clear P
  go_enter Tryd.func43, Tryd.ntmps43
  go_wp2
  go_loopw [3, 4, 5] (fun s3 _ _ wr => s3 = .int .i64 0 ∧ wr = W) (fun _ _ _ _ => 0)
  case atStart => exact ⟨rfl, rfl⟩
  case round =>
    obtain ⟨rfl, hw⟩ := hrel
    subst wr
    go_wp2
    go_ret
    exact ⟨rfl, rfl⟩

end

set_option maxRecDepth 100000 in
set_option maxHeartbeats 4000000 in
theorem keptI_yes {W : World} {B bb : Nat} {es : List Ent} {a turn done : Int} {S : List Nat} (hbk : BookAtI W B bb es a turn done S) (ht : turn ≤ 1000000) (hl : es.length ≤ 900000) :
    Calls Tryd.prog 41 #[.pointer (some ⟨bb, 0, none⟩)] W fun e w' => e = .returned (.bool true) ∧ Kept [] W w' := by
  obtain ⟨vb, vo, D, SD, used, P, hes, hu0, hu1, hS⟩ := hbk.ex
  have G0 : GrI W W B bb vb vo D SD es a turn done used S := ⟨P, hes, Kept.refl _ _, fun x hx => Or.inl (by rw [hS]; exact hx)⟩
  have HZ : Hid (∀ W1, Kept [] W W1 → W1.cell? ⟨bb, 9, none⟩ = some (.slice none 0 0) ∧ W1.cell? ⟨bb, 12, none⟩ = some (.slice none 0 0) ∧ W1.cell? ⟨bb, 15, none⟩ = some (.slice none 0 0)) := fun W1 k => ⟨k.cell (P.zero 9 (by simp)).1 (by simp), k.cell (P.zero 12 (by simp)).1 (by simp), k.cell (P.zero 15 (by simp)).1 (by simp)⟩
  obtain ⟨⟨ab, cb, rfl⟩, ⟨ao, co, rfl⟩⟩ := G0.form
  have HG0 : Hid (GrI W W B bb (.slice ab es.length cb) (.slice ao es.length co) D SD es a turn done used S) := G0
  have HQ : Hid (∀ W1, Kept [] W W1 → W1.cell? ⟨bb, 6, none⟩ = some (.slice ab es.length cb) ∧ W1.cell? ⟨bb, 7, none⟩ = some (.slice ao es.length co)) := fun W1 k => ⟨k.cell P.cells.1 (by simp), k.cell P.cells.2.1 (by simp)⟩
  have q0 := (HQ.out W (Kept.refl _ _)).1
  have q1 := (HQ.out W (Kept.refl _ _)).2
  have hui := Tryd.underlying24
  clear P hes hS hbk G0 hu0 hu1
  go_enter Tryd.func41, Tryd.ntmps41
  go_wp2
  go_loopw [3, 4] (fun s3 _ wr => ∃ i : Nat, s3 = .int .i64 i ∧ i ≤ es.length ∧ Hid (Kept [] W wr)) (fun s3 _ _ => es.length - (intOf s3).toNat)
  case atStart => exact ⟨0, rfl, Nat.zero_le _, Kept.refl _ _⟩
  case round =>
    obtain ⟨i, rfl, hi, HK⟩ := hrel
    clear q0 q1
    obtain ⟨q0, q1⟩ := HQ.out _ HK.out
    by_cases hlt : i < es.length
    · have t1 : decide ((i : Int) < (es.length : Int)) = true := by simp; omega
      obtain ⟨x, hx⟩ : ∃ x, es[i]? = some x := ⟨es[i], List.getElem?_eq_getElem (by omega)⟩
      obtain ⟨gb, go, rfl, rfl, c1, c2, cc1, cc2⟩ := HG0.out.at hx
      have hxe := HG0.out.ent x (List.mem_of_getElem? hx)
      obtain ⟨av, cv, hxv⟩ : ∃ av cv, x.v = .slice av x.n cv := by
        rcases hxe.1 with ⟨h1, h2⟩ | ⟨g, cap, ext, h1, _⟩
        · exact ⟨none, 0, by rw [h1, h2]⟩
        · exact ⟨_, _, h1⟩
      rw [hxv] at c1
      have hHB : Hid (0 < x.n → ∃ g, av = some ⟨g, 0, none⟩ ∧ x.n ≤ cv ∧ ∀ W1, Kept [] W W1 → ∀ k, k < x.n → W1.rangeAt g (k * 32) ((idM x.m).map (Value.int .u8))) := fun hp => by
        rcases hxe.1 with ⟨_, h2⟩ | ⟨g, cap, ext, h1, h2, h3⟩
        · omega
        · have hin := (HG0.out.bk.blk.row g _ h2).1
          rw [hxv] at h1
          injection h1 with e1 _ e3
          subst e1 e3
          have hle := hin.le
          rw [List.length_replicate] at hle
          dsimp only at hle hin
          exact ⟨g, rfl, by omega, fun W1 k1 k hk => range_kept (hin.row k (idM x.m) (by rw [List.getElem?_replicate, if_pos (by omega)])) k1 (by simp)⟩
      have HC1 : Hid (∀ W1, Kept [] W W1 → W1.cell? ⟨gb, i, none⟩ = some (.slice av x.n cv) ∧ W1.cell? ⟨go, i, none⟩ = some (.int .i64 x.m)) := fun W1 k => ⟨k.cell c1 (by simp), k.cell c2 (by simp)⟩
      have hxm : x.n ≤ 1000000000000 := by
        rcases hxe.1 with ⟨_, h2⟩ | ⟨g, cap, ext, h1, h2, h3⟩
        · omega
        · have h4 := (HG0.out.bk.blk.row g _ h2).2
          dsimp only at h4
          omega
      have hm0 := hxe.2.1
      have hm1 := hxe.2.2
      have i0 : (0 : Int) ≤ i := by omega
      have i1 : (i : Int) < es.length := by omega
      clear hxe hxv hx c1 c2
      generalize x.m = m at *
      generalize x.n = xn at *
      obtain ⟨c1, c2⟩ := HC1.out _ HK.out
      go_wp2
      go_loopw [4] (fun s4 wr => ∃ k : Nat, s4 = .int .i64 k ∧ k ≤ xn ∧ Hid (Kept [] W wr)) (fun s4 _ => xn - (intOf s4).toNat)
      case atStart => exact ⟨0, rfl, Nat.zero_le _, HK⟩
      case round =>
        obtain ⟨k, rfl, hk, HKQ⟩ := hrel
        obtain ⟨p0, p1⟩ := HQ.out _ HKQ.out
        obtain ⟨d1, d2⟩ := HC1.out _ HKQ.out
        by_cases hkl : k < xn
        · have t2 : decide ((k : Int) < (xn : Int)) = true := by simp; omega
          obtain ⟨g, rfl, hcv, hrow⟩ := hHB.out (by omega)
          obtain ⟨X, hX⟩ : ∃ X, X = (idM m).map (Value.int .u8) := ⟨_, rfl⟩
          rw [← hX] at hrow
          have hXl : X.length = 32 := by rw [hX, List.length_map]; exact (idM_good m).1
          have hszl : (Tryd.prog.info? 24).map (·.size) = some X.length := by rw [hXl]; exact Tryd.infoID
          have heq : ∀ W, (Op.equalIn 10000 24 (.agg X.toArray) (.agg X.toArray)).run Tryd.prog W = .ok true W := fun W => by
            have h := equal_same m W
            rwa [← hX] at h
          have HC : Hid (∀ W1, Kept [] wr W1 → W1.cell? ⟨bb, 6, none⟩ = some (.slice (some ⟨gb, 0, none⟩) es.length cb) ∧ W1.cell? ⟨gb, i, none⟩ = some (.slice (some ⟨g, 0, none⟩) xn cv) ∧ W1.cell? ⟨bb, 7, none⟩ = some (.slice (some ⟨go, 0, none⟩) es.length co) ∧ W1.cell? ⟨go, i, none⟩ = some (.int .i64 m)) := fun W1 k1 => ⟨(HQ.out _ (HKQ.out.then k1)).1, (HC1.out _ (HKQ.out.then k1)).1, (HQ.out _ (HKQ.out.then k1)).2, (HC1.out _ (HKQ.out.then k1)).2⟩
          have HR : Hid (∀ W1, Kept [] wr W1 → W1.rangeAt g (k * 32) X) := fun W1 k1 => hrow W1 (HKQ.out.then k1) k hkl
          have HIM : Hid (∀ W1, Kept [] wr W1 → Calls Tryd.prog 27 #[.int .i64 m] W1 fun e w' => e = .returned (.agg X.toArray) ∧ Kept [] wr w') := fun W1 k1 => by
            have h := idsMark_any m hm0 (by omega) W1
            rw [show idC (idM m) = X.toArray by rw [hX]; rfl] at h
            exact h.mono fun e w' h => ⟨h.1, k1.then h.2⟩
          have k0 : (0 : Int) ≤ k := by omega
          have k1 : (k : Int) < xn := by omega
          have k2 : (k : Int) < cv := by omega
          clear hX hrow
          go_wp2_with fail
          refine region_quiet (Kept [] wr) (by kernel_rfl) (by kernel_rfl) (Kept.refl [] wr).drew ?_
          with_reducible refine wpQuiet_step ?_
          intro K hK
          rw [if_pos (by go_simp)]
          refine move_at (.tmp 0) rfl (.pointer (some ⟨bb, 0, none⟩)) rfl (hK _ ?_)
          clear hK K
          simp only [Act.put, List.setIfInBounds_toArray, List.set_cons_zero, List.set_cons_succ]
          with_reducible refine wpQuiet_step ?_
          intro K hK
          rw [if_pos (by go_simp)]
          refine val_at (.pointer (some ⟨bb, 0, none⟩)) (fun W => by go_simp) (hK _ ?_)
          clear hK K
          simp only [Act.put, List.setIfInBounds_toArray, List.set_cons_zero, List.set_cons_succ]
          with_reducible refine wpQuiet_step ?_
          intro K hK
          rw [if_pos (by go_simp)]
          refine val_at (.pointer (some ⟨bb, 6, none⟩)) (fun W => by go_simp) (hK _ ?_)
          clear hK K
          simp only [Act.put, List.setIfInBounds_toArray, List.set_cons_zero, List.set_cons_succ]
          with_reducible refine wpQuiet_step ?_
          intro K hK
          rw [if_pos (by go_simp)]
          refine valC_at (.slice (some ⟨gb, 0, none⟩) es.length cb) (fun W hW => by have hcc := (HC.out W hW).1; go_simp) (hK _ ?_)
          clear hK K
          simp only [Act.put, List.setIfInBounds_toArray, List.set_cons_zero, List.set_cons_succ]
          with_reducible refine wpQuiet_step ?_
          intro K hK
          rw [if_pos (by go_simp)]
          refine move_at (.tmp 3) rfl (.int .i64 i) rfl (hK _ ?_)
          clear hK K
          simp only [Act.put, List.setIfInBounds_toArray, List.set_cons_zero, List.set_cons_succ]
          with_reducible refine wpQuiet_step ?_
          intro K hK
          rw [if_pos (by go_simp)]
          refine val_at (.pointer (some ⟨gb, i, none⟩)) (fun W => by go_simp) (hK _ ?_)
          clear hK K
          simp only [Act.put, List.setIfInBounds_toArray, List.set_cons_zero, List.set_cons_succ]
          with_reducible refine wpQuiet_step ?_
          intro K hK
          rw [if_pos (by go_simp)]
          refine valC_at (.slice (some ⟨g, 0, none⟩) xn cv) (fun W hW => by have hcc := (HC.out W hW).2.1; go_simp) (hK _ ?_)
          clear hK K
          simp only [Act.put, List.setIfInBounds_toArray, List.set_cons_zero, List.set_cons_succ]
          with_reducible refine wpQuiet_step ?_
          intro K hK
          rw [if_pos (by go_simp)]
          refine move_at (.tmp 4) rfl (.int .i64 k) rfl (hK _ ?_)
          clear hK K
          simp only [Act.put, List.setIfInBounds_toArray, List.set_cons_zero, List.set_cons_succ]
          with_reducible refine wpQuiet_step ?_
          intro K hK
          rw [if_pos (by go_simp)]
          refine val_at (.pointer (some ⟨g, k * 32, none⟩)) (fun W => by go_simp) (hK _ ?_)
          clear hK K
          simp only [Act.put, List.setIfInBounds_toArray, List.set_cons_zero, List.set_cons_succ]
          with_reducible refine wpQuiet_step ?_
          intro K hK
          rw [if_pos (by go_simp)]
          refine row_at 24 (.tmp 40) rfl g (k * 32) rfl X _ HR.out hui rfl hszl (hK _ ?_)
          clear hK K
          simp only [Act.put, List.setIfInBounds_toArray, List.set_cons_zero, List.set_cons_succ]
          with_reducible refine wpQuiet_step ?_
          intro K hK
          rw [if_pos (by go_simp)]
          refine move_at (.tmp 0) rfl (.pointer (some ⟨bb, 0, none⟩)) rfl (hK _ ?_)
          clear hK K
          simp only [Act.put, List.setIfInBounds_toArray, List.set_cons_zero, List.set_cons_succ]
          with_reducible refine wpQuiet_step ?_
          intro K hK
          rw [if_pos (by go_simp)]
          refine val_at (.pointer (some ⟨bb, 0, none⟩)) (fun W => by go_simp) (hK _ ?_)
          clear hK K
          simp only [Act.put, List.setIfInBounds_toArray, List.set_cons_zero, List.set_cons_succ]
          with_reducible refine wpQuiet_step ?_
          intro K hK
          rw [if_pos (by go_simp)]
          refine val_at (.pointer (some ⟨bb, 7, none⟩)) (fun W => by go_simp) (hK _ ?_)
          clear hK K
          simp only [Act.put, List.setIfInBounds_toArray, List.set_cons_zero, List.set_cons_succ]
          with_reducible refine wpQuiet_step ?_
          intro K hK
          rw [if_pos (by go_simp)]
          refine valC_at (.slice (some ⟨go, 0, none⟩) es.length co) (fun W hW => by have hcc := (HC.out W hW).2.2.1; go_simp) (hK _ ?_)
          clear hK K
          simp only [Act.put, List.setIfInBounds_toArray, List.set_cons_zero, List.set_cons_succ]
          with_reducible refine wpQuiet_step ?_
          intro K hK
          rw [if_pos (by go_simp)]
          refine move_at (.tmp 3) rfl (.int .i64 i) rfl (hK _ ?_)
          clear hK K
          simp only [Act.put, List.setIfInBounds_toArray, List.set_cons_zero, List.set_cons_succ]
          with_reducible refine wpQuiet_step ?_
          intro K hK
          rw [if_pos (by go_simp)]
          refine val_at (.pointer (some ⟨go, i, none⟩)) (fun W => by go_simp) (hK _ ?_)
          clear hK K
          simp only [Act.put, List.setIfInBounds_toArray, List.set_cons_zero, List.set_cons_succ]
          with_reducible refine wpQuiet_step ?_
          intro K hK
          rw [if_pos (by go_simp)]
          refine valC_at (.int .i64 m) (fun W hW => by have hcc := (HC.out W hW).2.2.2; go_simp) (hK _ ?_)
          clear hK K
          simp only [Act.put, List.setIfInBounds_toArray, List.set_cons_zero, List.set_cons_succ]
          with_reducible refine wpQuiet_step ?_
          intro K hK
          rw [if_pos (by go_simp)]
          refine call_at 27 #[.int .i64 m] (.agg X.toArray) (fun W => by go_simp) HIM.out (hK _ ?_)
          clear hK K
          simp only [Act.put, List.setIfInBounds_toArray, List.set_cons_zero, List.set_cons_succ]
          with_reducible refine wpQuiet_step ?_
          intro K hK
          rw [if_pos (by go_simp)]
          refine neq_at (.tmp 41) (.tmp 49) _ rfl X.toArray X.toArray rfl rfl true heq (hK _ ?_)
          clear hK K
          simp only [Act.put, List.setIfInBounds_toArray, List.set_cons_zero, List.set_cons_succ]
          refine wpQuiet_nil ?_
          intro wz hkz
          have HKZ : Hid (Kept [] W wz) := HKQ.out.then hkz
          clear hkz
          go_wp2
          go_roundw
          case rel => exact ⟨k + 1, by go_num, by omega, HKZ⟩
          case measure => simp [intOf]; omega
        · have t2 : decide ((k : Int) < (xn : Int)) = false := by simp; omega
          go_wp2
          go_roundw
          case rel => exact ⟨i + 1, by go_num, by omega, HKQ⟩
          case measure => simp [intOf]; omega
    · have t1 : decide ((i : Int) < (es.length : Int)) = false := by simp; omega
      obtain ⟨z1, z2, z3⟩ := HZ.out _ HK.out
      obtain ⟨w9, hw9⟩ : ∃ w9, w9 = wr := ⟨_, rfl⟩
      rw [← hw9] at HK z1 z2 z3 q0 q1 ⊢
      clear hw9
      go_wp2
      go_loopw [5, 6] (fun s5 _ wr => s5 = .int .i64 0 ∧ wr = w9) (fun _ _ _ => 0)
      case atStart => exact ⟨rfl, rfl⟩
      case round =>
        obtain ⟨rfl, hw⟩ := hrel
        subst wr
        go_wp2
        go_loopw [7, 8] (fun s7 _ wr => s7 = .int .i64 0 ∧ wr = w9) (fun _ _ _ => 0)
        case atStart => exact ⟨rfl, rfl⟩
        case round =>
          obtain ⟨rfl, hw⟩ := hrel
          subst wr
          go_wp2
          go_loopw [9, 10] (fun s9 _ wr => s9 = .int .i64 0 ∧ wr = w9) (fun _ _ _ => 0)
          case atStart => exact ⟨rfl, rfl⟩
          case round =>
            obtain ⟨rfl, hw⟩ := hrel
            subst wr
            go_wp2
            go_ret
            exact ⟨rfl, HK.out⟩

theorem BkQ.on0 {W W' : World} {B bb : Nat} {es : List Ent} {a turn : Nat} {done : Int} {S : List Nat} (h : BkQ W B bb es a turn done S) (k : Kept [] W W') : BkQ W' B bb es a turn done S := h.on k (fun _ _ => by simp)
set_option maxHeartbeats 1000000 in
theorem holdsI_yes {W : World} {B bb : Nat} {es : List Ent} {a turn : Nat} {done : Int} {S : List Nat} (hbk : BkQ W B bb es a turn done S) (ht : turn ≤ 5000) :
    Calls Tryd.prog 29 #[.pointer (some ⟨bb, 0, none⟩)] W fun e w' => e = .returned (.bool true) ∧ Kept [] W w' := by
  have h1 := hbk.len
  have hk := keptI_yes hbk.bk (by omega) (by omega)
  obtain ⟨vb, vo, D, SD, used, P, _⟩ := hbk.bk.ex
  have hp := plainI_yes P
  have HP : Hid (∀ W1, Kept [] W W1 → BkI W1 B bb vb vo D SD (es.map Ent.v) (es.map fun x => Value.int .i64 x.m) a turn done used) := fun W1 k => P.on k (fun _ _ => by simp)
  clear hbk h1 P
  go_enter Tryd.func29, Tryd.ntmps29
  go_wp2_with fail
  go_at_call 40
  refine hp.mono ?_
  rintro e w1 ⟨rfl, hw1⟩
  subst w1
  go_wp2_with fail
  go_at_call 41
  refine hk.mono ?_
  rintro e w2 ⟨rfl, k2⟩
  have ht := toldI_yes (HP.out _ k2)
  have hh := heldI_yes (HP.out _ k2)
  have HW : Hid (Kept [] W w2) := k2
  clear hk hp k2
  go_wp2_with fail
  go_at_call 42
  refine ht.mono ?_
  rintro e w3 ⟨rfl, hw3⟩
  subst w3
  go_wp2_with fail
  go_at_call 43
  refine hh.mono ?_
  rintro e w3 ⟨rfl, hw3⟩
  subst w3
  go_wp2
  go_ret
  exact ⟨rfl, HW.out⟩
/-- A number of the book laid anew. -/
theorem BkQ.num {W : World} {B bb : Nat} {es : List Ent} {a turn : Nat} {done done' : Int} {S : List Nat} (h : BkQ W B bb es a turn done S) (i : Nat) (v : Value) (hb : ∀ vb vo used, (bookI vb vo a turn done used).setIfInBounds i v = bookI vb vo a turn done' used) : BkQ (W.setCell ⟨bb, i, none⟩ v) B bb es a turn done' S ∧ Kept S W (W.setCell ⟨bb, i, none⟩ v) := by
  obtain ⟨vb, vo, D, SD, used, P, h1, h2, h3, hS⟩ := h.bk.ex
  refine ⟨⟨⟨vb, vo, D, SD, used, P.num i v (hb _ _ _), h1, h2, h3, hS⟩, h.le, h.len, h.pend⟩, (Kept.refl S W).setCell (p := ⟨bb, i, none⟩) (Or.inl ?_) _⟩
  rw [hS]
  simp [footB]
theorem BkQ.ex {W : World} {B bb : Nat} {es : List Ent} {a turn : Nat} {done : Int} {S : List Nat} (h : BkQ W B bb es a turn done S) : ∃ vb vo D SD used, BkI W B bb vb vo D SD (es.map Ent.v) (es.map fun x => Value.int .i64 x.m) a turn done used := by
  obtain ⟨vb, vo, D, SD, used, P, _⟩ := h.bk.ex
  exact ⟨vb, vo, D, SD, used, P⟩

set_option maxRecDepth 100000 in
set_option maxHeartbeats 4000000 in
theorem growI_any {W : World} {B bb : Nat} {es : List Ent} {a turn : Nat} {done : Int} {S : List Nat} (hbk : BkQ W B bb es a turn done S) (ht : turn ≤ 5000) (hB : B ≤ W.heap.size) :
    Calls Tryd.prog 30 #[.pointer (some ⟨bb, 0, none⟩)] W fun e w' => e = .returned (.tuple #[]) ∧ GrewI W w' B bb turn turn S := by
  have HBK : Hid (BkQ W B bb es a turn done S) := hbk
  obtain ⟨vb, vo, D, SD, used, P⟩ := hbk.ex
  have hc := growBytesI_no P
  have HBW : Hid (B ≤ W.heap.size) := hB
  clear hbk P hB
  go_enter Tryd.func30, Tryd.ntmps30
  go_wp2_with fail
  go_at_call 44
  refine hc.mono ?_
  rintro e w0 ⟨rfl, hw⟩
  obtain ⟨Bn, kn⟩ := HBK.out.num 2 (.int .i64 0) (done' := done) (fun _ _ _ => rfl)
  rw [← hw] at Bn kn
  have HB0 : Hid (BkQ w0 B bb es a turn done S) := Bn
  have HK0 : Hid (Kept S W w0) := kn
  obtain ⟨vb, vo, D, SD, used, P⟩ := Bn.ex
  have hc := growRowsI_no P
  clear P hw Bn kn HBK
  go_wp2_with fail
  go_at_call 45
  refine hc.mono ?_
  rintro e w1 ⟨rfl, hw⟩
  obtain ⟨Bn, kn⟩ := HB0.out.num 5 (.int .i64 0) (done' := done) (fun _ _ _ => rfl)
  rw [← hw] at Bn kn
  have HK1 : Hid (Kept S W w1) := HK0.out.then kn
  have hg := growIds_any Bn ht (Nat.le_trans HBW.out HK1.out.size)
  clear hw Bn kn HB0 HK0
  go_wp2_with fail
  go_at_call 46
  refine hg.mono ?_
  rintro e w2 ⟨rfl, es', a', S', B0, kk, hf⟩
  have HB2 : Hid (BkQ w2 B bb es' a' turn done S') := B0
  have HK2 : Hid (Kept S W w2 ∧ (∀ x, x ∈ S' → x ∈ S ∨ W.heap.size ≤ x)) := ⟨HK1.out.then kk, fun x hx => (hf x hx).imp id (fun h => Nat.le_trans HK1.out.size h)⟩
  obtain ⟨vb, vo, D, SD, used, P⟩ := B0.ex
  have hc := growTextsI_no P
  clear hg B0 kk hf P HK1
  go_wp2_with fail
  go_at_call 47
  refine hc.mono ?_
  rintro e w3 ⟨rfl, hw⟩
  obtain ⟨Bn, kn⟩ := HB2.out.num 11 (.int .i64 0) (done' := done) (fun _ _ _ => rfl)
  rw [← hw] at Bn kn
  have HB3 : Hid (BkQ w3 B bb es' a' turn done S') := Bn
  have HK3 : Hid (Kept S W w3 ∧ (∀ x, x ∈ S' → x ∈ S ∨ W.heap.size ≤ x)) := ⟨HK2.out.1.trans kn HK2.out.2, HK2.out.2⟩
  obtain ⟨vb, vo, D, SD, used, P⟩ := Bn.ex
  have hc := growRefsI_no P
  clear P hw Bn kn HB2 HK2
  go_wp2_with fail
  go_at_call 48
  refine hc.mono ?_
  rintro e w4 ⟨rfl, hw⟩
  obtain ⟨Bn, kn⟩ := HB3.out.num 14 (.int .i64 0) (done' := done) (fun _ _ _ => rfl)
  rw [← hw] at Bn kn
  have HB4 : Hid (BkQ w4 B bb es' a' turn done S') := Bn
  have HK4 : Hid (Kept S W w4 ∧ (∀ x, x ∈ S' → x ∈ S ∨ W.heap.size ≤ x)) := ⟨HK3.out.1.trans kn HK3.out.2, HK3.out.2⟩
  obtain ⟨vb, vo, D, SD, used, P⟩ := Bn.ex
  have hc := growStampsI_no P
  clear P hw Bn kn HB3 HK3
  go_wp2_with fail
  go_at_call 49
  refine hc.mono ?_
  rintro e w5 ⟨rfl, hw⟩
  obtain ⟨Bn, kn⟩ := HB4.out.num 17 (.int .i64 0) (done' := done) (fun _ _ _ => rfl)
  rw [← hw] at Bn kn
  have HB5 : Hid (BkQ w5 B bb es' a' turn done S') := Bn
  have HK5 : Hid (Kept S W w5 ∧ (∀ x, x ∈ S' → x ∈ S ∨ W.heap.size ≤ x)) := ⟨HK4.out.1.trans kn HK4.out.2, HK4.out.2⟩
  obtain ⟨vb, vo, D, SD, used, P⟩ := Bn.ex
  have hc := growMovesI_no P
  clear P hw Bn kn HB4 HK4
  go_wp2_with fail
  go_at_call 50
  refine hc.mono ?_
  rintro e w6 ⟨rfl, hw⟩
  obtain ⟨Bn, kn⟩ := HB5.out.num 20 (.int .i64 0) (done' := done) (fun _ _ _ => rfl)
  rw [← hw] at Bn kn
  have HB6 : Hid (BkQ w6 B bb es' a' turn done S') := Bn
  have HK6 : Hid (Kept S W w6 ∧ (∀ x, x ∈ S' → x ∈ S ∨ W.heap.size ≤ x)) := ⟨HK5.out.1.trans kn HK5.out.2, HK5.out.2⟩
  obtain ⟨vb, vo, D, SD, used, P⟩ := Bn.ex
  have hc := growLinksI_no P
  clear P hw Bn kn HB5 HK5
  go_wp2_with fail
  go_at_call 51
  refine hc.mono ?_
  rintro e w7 ⟨rfl, hw⟩
  obtain ⟨Bn, kn⟩ := HB6.out.num 23 (.int .i64 0) (done' := done) (fun _ _ _ => rfl)
  rw [← hw] at Bn kn
  have HB7 : Hid (BkQ w7 B bb es' a' turn done S') := Bn
  have HK7 : Hid (Kept S W w7 ∧ (∀ x, x ∈ S' → x ∈ S ∨ W.heap.size ≤ x)) := ⟨HK6.out.1.trans kn HK6.out.2, HK6.out.2⟩
  obtain ⟨vb, vo, D, SD, used, P⟩ := Bn.ex
  have hc := growFilesI_no P
  clear P hw Bn kn HB6 HK6
  go_wp2_with fail
  go_at_call 52
  refine hc.mono ?_
  rintro e w8 ⟨rfl, hw⟩
  obtain ⟨Bn, kn⟩ := HB7.out.num 26 (.int .i64 0) (done' := done) (fun _ _ _ => rfl)
  rw [← hw] at Bn kn
  have HB8 : Hid (BkQ w8 B bb es' a' turn done S') := Bn
  have HK8 : Hid (Kept S W w8 ∧ (∀ x, x ∈ S' → x ∈ S ∨ W.heap.size ≤ x)) := ⟨HK7.out.1.trans kn HK7.out.2, HK7.out.2⟩
  obtain ⟨vb, vo, D, SD, used, P⟩ := Bn.ex
  have hc := growEntriesI_no P
  clear P hw Bn kn HB7 HK7
  go_wp2_with fail
  go_at_call 53
  refine hc.mono ?_
  rintro e w9 ⟨rfl, hw⟩
  obtain ⟨Bn, kn⟩ := HB8.out.num 29 (.int .i64 0) (done' := done) (fun _ _ _ => rfl)
  rw [← hw] at Bn kn
  have HB9 : Hid (BkQ w9 B bb es' a' turn done S') := Bn
  have HK9 : Hid (Kept S W w9 ∧ (∀ x, x ∈ S' → x ∈ S ∨ W.heap.size ≤ x)) := ⟨HK8.out.1.trans kn HK8.out.2, HK8.out.2⟩
  obtain ⟨vb, vo, D, SD, used, P⟩ := Bn.ex
  have hc := growNotesI_no P
  clear P hw Bn kn HB8 HK8
  go_wp2_with fail
  go_at_call 54
  refine hc.mono ?_
  rintro e w10 ⟨rfl, hw⟩
  obtain ⟨Bn, kn⟩ := HB9.out.num 32 (.int .i64 0) (done' := done) (fun _ _ _ => rfl)
  rw [← hw] at Bn kn
  have HB10 : Hid (BkQ w10 B bb es' a' turn done S') := Bn
  have HK10 : Hid (Kept S W w10 ∧ (∀ x, x ∈ S' → x ∈ S ∨ W.heap.size ≤ x)) := ⟨HK9.out.1.trans kn HK9.out.2, HK9.out.2⟩
  clear hw Bn kn HB9 HK9 hc
  obtain ⟨vb, vo, D, SD, used, P⟩ := HB10.out.ex
  obtain ⟨_, _, _, q33, q34, _, qf⟩ := P.cells
  obtain ⟨B11, k11⟩ := HB10.out.num 34 (.int .i64 turn) (done' := (turn : Int)) (fun _ _ _ => rfl)
  have HF : Hid (GrewI W (w10.setCell ⟨bb, 34, none⟩ (.int .i64 turn)) B bb turn turn S) := ⟨es', a', S', B11, HK10.out.1.trans k11 HK10.out.2, HK10.out.2⟩
  clear P B11 k11
  go_wp2
  go_end0
  exact ⟨rfl, HF.out⟩

structure LookedI (W W' : World) (B bb : Nat) (turn : Nat) (S : List Nat) : Prop where
  ex : ∃ es a done S', BkQ W' B bb es a turn done S' ∧ Kept S W W' ∧ (∀ x, x ∈ S' → x ∈ S ∨ W.heap.size ≤ x)
set_option maxRecDepth 100000 in
set_option maxHeartbeats 4000000 in
theorem LookI_any {W : World} {B bb : Nat} {es : List Ent} {a turn : Nat} {done : Int} {S : List Nat} (hbk : BkQ W B bb es a turn done S) (ht : turn ≤ 5000) (hB : B ≤ W.heap.size) :
    Calls Tryd.prog 16 #[.pointer (some ⟨bb, 0, none⟩)] W fun e w' => e = .returned (.bool true) ∧ LookedI W w' B bb turn S := by
  have hh := holdsI_yes hbk ht
  have HBK : Hid (BkQ W B bb es a turn done S) := hbk
  clear hbk
  go_enter Tryd.func16, Tryd.ntmps16
  go_wp2_with fail
  go_at_call 29
  refine hh.mono ?_
  rintro e w1 ⟨rfl, k1⟩
  have HB1 : Hid (BkQ w1 B bb es a turn done S) := HBK.out.on0 k1
  have HK1 : Hid (Kept [] W w1) := k1
  obtain ⟨vb, vo, D, SD, used, P⟩ := HB1.out.ex
  obtain ⟨_, _, _, q33, q34, _, qf⟩ := P.cells
  clear hh k1 HBK P
  by_cases hd : done = turn
  · have e1 : (done == (turn : Int)) = true := by simpa using hd
    clear hd
    go_wp2
    go_quiet (fail)
    go_wp2
    go_ret
    exact ⟨rfl, ⟨es, a, done, S, HB1.out.on0 ((Kept.refl [] w1).drewN _), (HK1.out.drewN _).more (by simp), fun x hx => Or.inl hx⟩⟩
  · have e1 : (done == (turn : Int)) = false := by simpa using hd
    clear hd
    go_wp2_with fail
    go_quiet (fail)
    have HB2 : Hid (BkQ (w1.drewN nq) B bb es a turn done S) := HB1.out.on0 ((Kept.refl [] w1).drewN _)
    have HK2 : Hid (Kept [] W (w1.drewN nq)) := HK1.out.drewN _
    clear HB1 HK1 q33 q34 qf
    generalize w1.drewN nq = w2 at *
    have hg := growI_any HB2.out ht (by have := HK2.out.size; omega)
    go_wp2_with fail
    go_at_call 30
    refine hg.mono ?_
    rintro e w3 ⟨rfl, es', a', S', B3, kk, hf⟩
    have hh := holdsI_yes B3 ht
    have HB3 : Hid (BkQ w3 B bb es' a' turn turn S') := B3
    have s2 := HK2.out.size
    have HK3 : Hid (Kept S W w3 ∧ (∀ x, x ∈ S' → x ∈ S ∨ W.heap.size ≤ x)) := ⟨(HK2.out.more (by simp)).then kk, fun x hx => (hf x hx).imp id (fun h => by omega)⟩
    clear hg B3 kk hf
    go_wp2_with fail
    go_at_call 29
    refine hh.mono ?_
    rintro e w4 ⟨rfl, k4⟩
    have HF : Hid (LookedI W w4 B bb turn S) := ⟨es', a', (turn : Int), S', HB3.out.on0 k4, HK3.out.1.trans k4 (by simp), HK3.out.2⟩
    clear hh k4
    go_wp2
    go_ret
    exact ⟨rfl, HF.out⟩

end Go.Proofs.YtlljiipmkjjhhaaDoor
