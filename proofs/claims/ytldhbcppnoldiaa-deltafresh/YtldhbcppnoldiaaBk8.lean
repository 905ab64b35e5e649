/-
  WALKS: (*satchellaw1.Late).same, Settle.
-/
import Derived.Test.YtldhbcppnoldiaaBk7
namespace Go.Proofs.Ytldhbcppnoldiaa
open Go.RowKit

section
variable {W : World} {B lb : Nat} {gs : List LEnt}
theorem LaS.form {vg vw : Value} (P : LaS W B lb vg vw (gs.map LEnt.got) (gs.map LEnt.want) gs) : (∃ ao cap, vg = .slice ao gs.length cap) ∧ ∃ ao cap, vw = .slice ao gs.length cap := by
  obtain ⟨a1, c1, h1⟩ := owns_shape P.own
  obtain ⟨a2, c2, h2⟩ := owns_shape P.owo
  rw [List.length_map] at h1 h2
  exact ⟨⟨a1, c1, h1⟩, a2, c2, h2⟩
theorem row_at {vg : Value} {L : List Value} {n : Nat} {ag : Option Addr} {cg : Nat} (hvg : vg = .slice ag n cg) (hn : L.length = n) (h1 : W.ownsRow B 22 1 vg L.length L) {k : Nat} {x : Value} (hx : L[k]? = some x) : ∃ gg, ag = some ⟨gg, 0, none⟩ ∧ W.cell? ⟨gg, k, none⟩ = some x ∧ n ≤ cg := by
  have hk : k < L.length := (List.getElem?_eq_some_iff.1 hx).1
  rw [hvg, hn] at h1
  rcases h1.2 with ⟨_, h0⟩ | ⟨g1, cap1, cur1, hv1, _, _, hn1, _⟩
  · omega
  injection hv1 with e1 _ e2
  subst e1 e2
  have c1 := World.ownsRow.cellAt h1 k (by omega)
  rw [hx] at c1
  exact ⟨g1, rfl, c1, hn1⟩
end

set_option maxRecDepth 100000 in
set_option maxHeartbeats 4000000 in
theorem same_yes {W : World} {B lb : Nat} {gs : List LEnt} {S : List Nat} (hla : La W B lb gs S) (hgl : gs.length ≤ 100000) :
    Calls Try.prog 45 #[.pointer (some ⟨lb, 0, none⟩)] W fun e w' => e = .returned (.bool true) ∧ ∃ n, w' = W.drewN n := by
  obtain ⟨vg, vw, P, rfl⟩ := hla.ex
  clear hla
  obtain ⟨q0, q1, q2, q3, qf⟩ := P.cells
  obtain ⟨⟨ag, cg, hvg⟩, ⟨aw, cw, hvw⟩⟩ := P.form
  have HP : Hid (LaS W B lb vg vw (gs.map LEnt.got) (gs.map LEnt.want) gs) := P
  have HVG : Hid (vg = .slice ag gs.length cg) := hvg
  have HVW : Hid (vw = .slice aw gs.length cw) := hvw
  rw [hvg] at q0
  rw [hvw] at q1
  clear P hvg hvw q3 qf
  go_enter Try.func45, Try.ntmps45
  go_wp2
  go_loopw [3] (fun s3 wr => ∃ i : Nat, s3 = .int .i64 i ∧ i ≤ gs.length ∧ ∃ q, wr = W.drewN q) (fun s3 _ => gs.length - (intOf s3).toNat)
  case atStart => exact ⟨0, rfl, Nat.zero_le _, 0, rfl⟩
  case round =>
    obtain ⟨i, rfl, hi, q, hw⟩ := hrel
    have HW : Hid (wr = W.drewN q) := hw
    have p0 : wr.cell? ⟨lb, 0, none⟩ = some (.slice ag gs.length cg) := by rw [hw]; exact q0
    have p1 : wr.cell? ⟨lb, 1, none⟩ = some (.slice aw gs.length cw) := by rw [hw]; exact q1
    have p2 : wr.cell? ⟨lb, 2, none⟩ = some (.slice none 0 0) := by rw [hw]; exact q2
    by_cases hlt : i < gs.length
    · have t1 : decide ((i : Int) < (gs.length : Int)) = true := by simp; omega
      obtain ⟨x, hx⟩ : ∃ x, gs[i]? = some x := ⟨gs[i], List.getElem?_eq_getElem (by omega)⟩
      obtain ⟨gg, rfl, c1, cc1⟩ := row_at HVG.out (List.length_map _) HP.out.own (k := i) (x := x.got) (by rw [List.getElem?_map, hx]; rfl)
      obtain ⟨gw, rfl, c2, cc2⟩ := row_at HVW.out (List.length_map _) HP.out.owo (k := i) (x := x.want) (by rw [List.getElem?_map, hx]; rfl)
      have d1 : wr.cell? ⟨gg, i, none⟩ = some x.got := by rw [hw]; exact c1
      have d2 : wr.cell? ⟨gw, i, none⟩ = some x.want := by rw [hw]; exact c2
      have hm := List.mem_of_getElem? hx
      have hcv1 : ∀ n, (convert 22 9 x.got).run Try.prog (wr.drewN n) = .ok (.string (strOfNums x.ys)) (wr.drewN n) := fun n => by
        rw [hw]
        exact (((HP.out.got x hm).bytes.kept (S := []) (((Kept.refl _ _).drewN q).drewN n) (fun _ _ => by simp))).conv
      have hcv2 : ∀ n, (convert 22 9 x.want).run Try.prog (wr.drewN n) = .ok (.string (strOfNums x.ys)) (wr.drewN n) := fun n => by
        rw [hw]
        exact (((HP.out.wnt x hm).kept (S := []) (((Kept.refl _ _).drewN q).drewN n) (fun _ _ => by simp))).conv
      have i0 : (0 : Int) ≤ i := by omega
      have i1 : (i : Int) < gs.length := by omega
      clear hw hx hm c1 c2
      generalize strOfNums x.ys = SS at *
      generalize x.got = xg at *
      generalize x.want = xw at *
      go_wp2
      go_quiet (fail)
      go_wp2
      go_roundw
      case rel => exact ⟨i + 1, by go_num, by omega, by rw [HW.out]; exact drew_sum _ _ _⟩
      case measure => simp [intOf]; omega
    · have t1 : decide ((i : Int) < (gs.length : Int)) = false := by simp; omega
      clear hw
      go_wp2
      go_loopw [4, 5] (fun s4 _ wq => s4 = .int .i64 0 ∧ wq = wr) (fun _ _ _ => 0)
      case atStart => exact ⟨rfl, rfl⟩
      case round =>
        obtain ⟨rfl, hw2⟩ := hrel
        subst hw2
        go_wp2
        go_ret
        exact ⟨rfl, q, HW.out⟩
end Go.Proofs.Ytldhbcppnoldiaa
