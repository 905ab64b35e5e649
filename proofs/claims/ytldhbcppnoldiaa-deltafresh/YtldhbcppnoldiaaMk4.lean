/-
  WALK: (*delta.maker).ends.
-/
import Derived.Test.YtldhbcppnoldiaaMk3
import Derived.Test.YtldhbcppnoldiaaDl4
namespace Go.Proofs.Ytldhbcppnoldiaa
open Go.RowKit

def keepL (g : Int) (k : Nat) : Nat := if g ≤ 0 then 0 else k
theorem keepL_le (g : Int) (k : Nat) : keepL g k ≤ k := by unfold keepL; split <;> omega

set_option maxRecDepth 100000 in
set_option maxHeartbeats 4000000 in
theorem ends_any {w0 w : World} {mb wb : Nat} {ab ad : Option Addr} {cb ct : Nat} {bs ts zs : List Int} {S : List Nat} (P : Mkr w0 w mb wb (.slice ab bs.length cb) (.slice ad ts.length ct) zs S)
    (hb : BytesAt w (.slice ab bs.length cb) bs) (ht : BytesAt w (.slice ad ts.length ct) ts) (hsb : bs.length ≤ 65536) (hst : ts.length ≤ 65536) (p s : Nat) (hp : Hid (LcpIs bs ts p)) (hs : Hid (LcsIs (bs.drop p) (ts.drop p) s)) :
    Calls Try.prog 52 #[.pointer (some ⟨mb, 0, none⟩)] w fun e w' => e = .returned (.tuple #[.int .i64 (keepL (gainL p 0 ts.length) p), .int .i64 (keepL (gainL s (bs.length - s) ts.length) s)]) ∧ Kept [] w w' := by
  obtain ⟨g0, g1, g2⟩ := P.cells
  have hpa := hp.out.a
  have hpb := hp.out.b
  have hsa := hs.out.a
  rw [List.length_drop] at hsa
  have hal := fun n => alike_any (hb.drewN n) (ht.drewN n) (by omega) (by omega) p hp
  have l1 : (bs.drop p).length = bs.length - p := by simp
  have l2 : (ts.drop p).length = ts.length - p := by simp
  have HAE : Hid (∀ W, Kept [] w W → ∀ n, Calls Try.prog 86 #[.slice (cutA ab cb p) (bs.length - p) (cb - p), .slice (cutA ad ct p) (ts.length - p) (ct - p)] (W.drewN n) fun e w' => e = .returned (.int .i64 s) ∧ ∃ m, w' = (W.drewN n).drewN m) := by
    intro W k n
    have e1 := (bytes_tail (hb.kept k (fun _ _ => by simp)) p hpa).drewN n
    have e2 := (bytes_tail (ht.kept k (fun _ _ => by simp)) p hpb).drewN n
    rw [← l1] at e1 ⊢
    rw [← l2] at e2 ⊢
    exact alikeEnd_any e1 e2 (by omega) (by omega) s hs
  have HG1 : Hid (∀ W, Kept [] w W → Calls Try.prog 87 #[.pointer (some ⟨mb, 0, none⟩), .agg #[.int .i64 0, .int .i64 p]] W fun e w' => e = .returned (.int .i64 (gainL p 0 ts.length)) ∧ Kept [] W w') := fun W k => gain_any (k.heap P.box (by simp)) 0 p (by omega) (by omega) hst
  have HG2 : Hid (∀ W, Kept [] w W → Calls Try.prog 87 #[.pointer (some ⟨mb, 0, none⟩), .agg #[.int .i64 ((bs.length - s : Nat) : Int), .int .i64 s]] W fun e w' => e = .returned (.int .i64 (gainL s (bs.length - s) ts.length)) ∧ Kept [] W w') := fun W k => gain_any (k.heap P.box (by simp)) (bs.length - s) s (by omega) (by omega) hst
  have HC : Hid (∀ W, Kept [] w W → W.cell? ⟨mb, 0, none⟩ = some (.slice ab bs.length cb) ∧ W.cell? ⟨mb, 1, none⟩ = some (.slice ad ts.length ct)) := fun W k => ⟨k.cell g0 (by simp), k.cell g1 (by simp)⟩
  have hw1 : IntKind.i64.wrap ((bs.length : Int) - s) = ((bs.length - s : Nat) : Int) := by rw [IntKind.wrap_i64]; omega
  have q0 : (0 : Int) ≤ p := by omega
  have q1 : (p : Int) ≤ bs.length := by omega
  have q2 : (p : Int) ≤ ts.length := by omega
  have hcut : ∀ (ao : Option Addr) (cap lo : Nat), (if cap = lo then ao else Option.map (fun x => x.add lo) ao) = cutA ao cap lo := fun _ _ _ => rfl
  clear P hb ht l1 l2
  go_enter Try.func52, Try.ntmps52
  go_wp2_with fail
  go_quiet (first | (go_at_call 85; exact Calls.quiet_of (hal _)))
  have K1 : Kept [] w (w.drewN nq) := (Kept.refl _ _).drewN _
  clear g0 g1 g2 hal
  generalize w.drewN nq = w1 at *
  obtain ⟨g0, g1⟩ := HC.out w1 K1
  have hae := HAE.out w1 K1
  go_wp2_with fail
  go_quiet (first | (go_at_call 86; exact Calls.quiet_of (hae _)))
  have K2 : Kept [] w (w1.drewN nq) := K1.drewN _
  clear g0 g1 hae HAE
  generalize w1.drewN nq = w2 at *
  have hg1 := HG1.out w2 K2
  generalize cutA ab cb p = a1
  generalize cutA ad ct p = a2
  go_wp2_with fail
  go_at_call 87
  refine hg1.mono ?_
  rintro e w3 ⟨rfl, k3⟩
  have K3 : Kept [] w w3 := K2.then k3
  obtain ⟨g0, g1⟩ := HC.out w3 K3
  have hg2 := HG2.out w3 K3
  clear hg1 HG1 k3
  have HK3 : Hid (Kept [] w w3) := K3
  clear K1 K2 K3
  by_cases c1 : gainL p 0 ts.length ≤ 0
  · have e1 : keepL (gainL p 0 ts.length) p = 0 := if_pos c1
    have d1 : decide (gainL p 0 ts.length ≤ 0) = true := by simpa using c1
    go_wp2_with fail
    go_at_call 87
    refine hg2.mono ?_
    rintro e w4 ⟨rfl, k4⟩
    have HK4 : Hid (Kept [] w w4) := HK3.out.then k4
    clear hg2 HG2 k4 g0 g1
    by_cases c2 : gainL s (bs.length - s) ts.length ≤ 0
    · have e2 : keepL (gainL s (bs.length - s) ts.length) s = 0 := if_pos c2
      have d2 : decide (gainL s (bs.length - s) ts.length ≤ 0) = true := by simpa using c2
      go_wp2
      go_ret2
      exact ⟨by rw [e1, e2]; rfl, HK4.out⟩
    · have e2 : keepL (gainL s (bs.length - s) ts.length) s = s := if_neg c2
      have d2 : decide (gainL s (bs.length - s) ts.length ≤ 0) = false := by simpa using c2
      go_wp2
      go_ret2
      exact ⟨by rw [e1, e2]; rfl, HK4.out⟩
  · have e1 : keepL (gainL p 0 ts.length) p = p := if_neg c1
    have d1 : decide (gainL p 0 ts.length ≤ 0) = false := by simpa using c1
    go_wp2_with fail
    go_at_call 87
    refine hg2.mono ?_
    rintro e w4 ⟨rfl, k4⟩
    have HK4 : Hid (Kept [] w w4) := HK3.out.then k4
    clear hg2 HG2 k4 g0 g1
    by_cases c2 : gainL s (bs.length - s) ts.length ≤ 0
    · have e2 : keepL (gainL s (bs.length - s) ts.length) s = 0 := if_pos c2
      have d2 : decide (gainL s (bs.length - s) ts.length ≤ 0) = true := by simpa using c2
      go_wp2
      go_ret2
      exact ⟨by rw [e1, e2]; rfl, HK4.out⟩
    · have e2 : keepL (gainL s (bs.length - s) ts.length) s = s := if_neg c2
      have d2 : decide (gainL s (bs.length - s) ts.length ≤ 0) = false := by simpa using c2
      go_wp2
      go_ret2
      exact ⟨by rw [e1, e2]; rfl, HK4.out⟩
end Go.Proofs.Ytldhbcppnoldiaa
