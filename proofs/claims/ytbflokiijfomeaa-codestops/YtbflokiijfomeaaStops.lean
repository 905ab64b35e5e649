/-
  WALK: satchellaw1.CodeStops: behind the first fault a Reader reads nothing any more, for every script.
-/
import Derived.Test.YtbflokiijfomeaaReader
import Derived.Test.YtbflokiijfomeaaOps
namespace Go.Proofs.Ytbflokiijfomeaa
open Go.RowKit

theorem takeL_bad (xs : List Int) (pl f : Nat) (kind size most : Int) (h : f ≠ 0) : takeL xs pl f kind size most = ⟨0, [], pl, f⟩ := if_pos h

set_option maxHeartbeats 1000000 in
theorem silent_any {w : World} {r g : Nat} {xs : List Int} {pl f : Nat} (R : Rdr w r g xs pl f) (hf : f ≠ 0) (kind which m n : Int) (ao : Option Addr) (l c : Nat)
    (hn1 : n ≤ 18446744073709551615) (hm1 : m ≤ 9223372036854775807) :
    Calls Try.prog 13 #[.pointer (some ⟨r, 0, none⟩), .agg #[.int .i64 kind, .int .i64 which, .int .i64 m, .int .u64 n, .slice ao l c]] w fun e w' =>
      e = .returned (.bool true) ∧ Rdr w' r g xs pl f ∧ Kept [r] w w' := by
  have R' := R.alloc (.cells #[.int .i64 kind, .int .i64 which, .int .i64 m, .int .u64 n, .slice ao l c] 37)
  have K' := (Kept.refl [r] w).alloc (.cells #[.int .i64 kind, .int .i64 which, .int .i64 m, .int .u64 n, .slice ao l c] 37)
  have HR : Hid _ := R'
  clear R R'
  have y1 := U8_any HR.out ⟨0, [], pl, f⟩ (takeL_bad _ _ _ _ _ _ hf).symm
  have y2 := U32_any HR.out ⟨0, [], pl, f⟩ (takeL_bad _ _ _ _ _ _ hf).symm
  have y3 := U64_any HR.out ⟨0, [], pl, f⟩ (takeL_bad _ _ _ _ _ _ hf).symm
  have y4 := Var_any HR.out n hn1 ⟨0, [], pl, f⟩ (takeL_bad _ _ _ _ _ _ hf).symm
  have y5 := Bytes_any HR.out m hm1 ⟨0, [], pl, f⟩ (takeL_bad _ _ _ _ _ _ hf).symm
  have y6 := Raw_any HR.out m hm1 ⟨0, [], pl, f⟩ (takeL_bad _ _ _ _ _ _ hf).symm
  dsimp only [List.length_nil] at y1 y2 y3 y4 y5 y6
  by_cases k1 : kind = 1
  · subst k1
    clear y2 y3 y4 y5 y6
    go_enter Try.func13, Try.ntmps13
    go_wp2_with (go_at_call 30; refine y1.mono ?_; rintro e w1 ⟨rfl, hr, hk⟩)
    go_ret
    exact ⟨rfl, hr, K'.then hk⟩
  have e1 : (kind == 1) = false := beq_eq_false_iff_ne.2 k1
  clear k1 y1
  by_cases k2 : kind = 2
  · subst k2
    clear y3 y4 y5 y6
    go_enter Try.func13, Try.ntmps13
    go_wp2_with (go_at_call 25; refine y2.mono ?_; rintro e w1 ⟨rfl, hr, hk⟩)
    go_ret
    exact ⟨rfl, hr, K'.then hk⟩
  have e2 : (kind == 2) = false := beq_eq_false_iff_ne.2 k2
  clear k2 y2
  by_cases k3 : kind = 3
  · subst k3
    clear y4 y5 y6
    go_enter Try.func13, Try.ntmps13
    go_wp2_with (go_at_call 9; refine y3.mono ?_; rintro e w1 ⟨rfl, hr, hk⟩)
    go_ret
    exact ⟨rfl, hr, K'.then hk⟩
  have e3 : (kind == 3) = false := beq_eq_false_iff_ne.2 k3
  clear k3 y3
  by_cases k4 : kind = 4
  · subst k4
    clear y5 y6
    go_enter Try.func13, Try.ntmps13
    go_wp2_with (go_at_call 36; refine y4.mono ?_; rintro e w1 ⟨rfl, hr, hk⟩)
    go_ret
    exact ⟨rfl, hr, K'.then hk⟩
  have e4 : (kind == 4) = false := beq_eq_false_iff_ne.2 k4
  clear k4 y4
  by_cases k5 : kind = 5
  · subst k5
    clear y6
    go_enter Try.func13, Try.ntmps13
    go_wp2_with (go_at_call 37; refine y5.mono ?_; rintro e w1 ⟨q, rfl, hq, hq2, hr, hk⟩; clear hq)
    go_ret
    exact ⟨rfl, hr, K'.then hk⟩
  have e5 : (kind == 5) = false := beq_eq_false_iff_ne.2 k5
  clear k5 y5
  go_enter Try.func13, Try.ntmps13
  go_wp2_with (go_at_call 38; refine y6.mono ?_; rintro e w1 ⟨q, rfl, hq, hq2, hr, hk⟩; clear hq)
  go_ret
  exact ⟨rfl, hr, K'.then hk⟩

/-- After k calls of U64 over n bytes: the place and the fault. -/
def plK (n k : Nat) : Nat := if k ≤ n / 8 then 8 * k else 8 * (n / 8)
def fK (n k : Nat) : Nat := if k ≤ n / 8 then 0 else 1
theorem stops_step (xs : List Int) (k : Nat) (h : k ≤ xs.length / 8) : (takeL xs (plK xs.length k) (fK xs.length k) 0 8 0).pl = plK xs.length (k + 1) ∧ (takeL xs (plK xs.length k) (fK xs.length k) 0 8 0).f = fK xs.length (k + 1) := by
  have e1 : plK xs.length k = 8 * k := if_pos h
  have e2 : fK xs.length k = 0 := if_pos h
  rw [e1, e2]
  unfold takeL
  rw [if_neg (by decide)]
  have e : lookL (xs.drop (8 * k)) 0 8 0 = fixedL (xs.drop (8 * k)) 8 := rfl
  rw [e]
  have hd : (xs.drop (8 * k)).length = xs.length - 8 * k := List.length_drop
  unfold fixedL
  by_cases hk : k + 1 ≤ xs.length / 8
  · rw [if_neg (show ¬ (xs.drop (8 * k)).length < 8 by rw [hd]; omega), if_neg (by simp)]
    unfold plK fK
    rw [if_pos hk, if_pos hk]
    exact ⟨by simp; omega, rfl⟩
  · rw [if_pos (show (xs.drop (8 * k)).length < 8 by rw [hd]; omega), if_pos (by simp)]
    unfold plK fK
    rw [if_neg hk, if_neg hk]
    exact ⟨by simp; omega, rfl⟩

set_option maxHeartbeats 4000000 in
theorem stops_empty (w : World) (ao0 ao1 ao2 : Option Addr) (l1 c0 c1 c2 : Nat) (xs : List Int) (h0 : BytesAt w (.slice ao0 xs.length c0) xs) (ho : Octs xs) (hs : xs.length ≤ 140737488351232) :
    Calls Try.prog 3 #[.agg #[.slice ao0 xs.length c0, .slice ao1 l1 c1, .slice ao2 0 c2]] w fun e w' => e = .returned (.bool true) ∧ Kept [] w w' := by
  have hread := Read_any _ xs _ (h0.kept ((Kept.refl [] w).alloc (.cells #[.slice ao0 xs.length c0, .slice ao1 l1 c1, .slice ao2 0 c2] 26)) (fun _ _ => by simp)) (by omega) ho
  go_enter Try.func3, Try.ntmps3
  go_wp2_with (go_at_call 8; refine hread.mono ?_; rintro e w1 ⟨r, g, rfl, R, hk, hr, hg1⟩)
  have KB : Kept [] w w1 := ((Kept.refl [] w).alloc _).then hk
  have hsb : w1.cell? ⟨w.heap.size, 2, none⟩ = some (.slice ao2 0 c2) := by rw [(hk.last).2.1]; rfl
  have hszw := (hk.last).1
  have HR0 : Hid (Rdr w1 r g xs (plK xs.length 0) (fK xs.length 0)) := R
  simp at hr hg1
  clear hread hk R
  go_loopw [5] (fun i wr => ∃ k : Nat, k ≤ xs.length / 8 + 1 ∧ i = .int .i64 k ∧ Hid (Rdr wr r g xs (plK xs.length k) (fK xs.length k)) ∧ Kept [r] w1 wr) (fun i _ => xs.length / 8 + 1 - (intOf i).toNat)
  case atStart => exact ⟨0, Nat.zero_le _, rfl, HR0, Kept.refl _ _⟩
  case round =>
    obtain ⟨k, hkk, rfl, HR, hK⟩ := hrel
    by_cases hlt : k < xs.length / 8 + 1
    · have hu := U64_any HR.out _ rfl
      obtain ⟨s1, s2⟩ := stops_step xs k (by omega)
      rw [s1, s2] at hu
      clear s1 s2
      go_wp2_with (go_at_call 9; refine hu.mono ?_; rintro e w2 ⟨rfl, hr2, hk2⟩; have HR2 : Hid _ := hr2; clear hr2)
      go_roundw
      case rel => exact ⟨k + 1, by omega, by go_num, HR2, hK.then hk2⟩
      case measure => simp [intOf]; omega
    · obtain rfl : k = xs.length / 8 + 1 := by omega
      have e1 : plK xs.length (xs.length / 8 + 1) = 8 * (xs.length / 8) := if_neg (by omega)
      have e2 : fK xs.length (xs.length / 8 + 1) = 1 := if_neg (by omega)
      rw [e1, e2] at HR
      clear e1 e2 HR0
      have hcur : wr.cell? ⟨w.heap.size, 2, none⟩ = some (.slice ao2 0 c2) := hK.cell hsb (by simp; omega)
      have KW : Kept [] w wr := KB.trans hK (by simp; omega)
      have hfault := Fault_any HR.out (by decide)
      have hat := At_any HR.out
      have hb8 : (8 * ((xs.length : Int) / 8) != (xs.length : Int) / 8 * 8) = false := by rw [bne_eq_false_iff_eq]; omega
      go_wp2_with (first | (go_at_call 11; refine hfault.mono ?_; rintro e w2 ⟨rfl, rfl⟩) | (go_at_call 10; refine (num_any _ _).mono ?_; rintro e w2 ⟨rfl, rfl⟩) | (go_at_call 12; refine hat.mono ?_; rintro e w2 ⟨rfl, rfl⟩))
      refine wp_loop_rounds 1 ?_
      rw [rounds_succ]
      go_wp2
      go_ret
      exact ⟨rfl, KW⟩

set_option maxRecDepth 100000 in
set_option maxHeartbeats 1000000 in
theorem stops_some (w : World) (ao0 ao1 : Option Addr) (b2 off2 l1 c0 c1 c2 : Nat) (xs : List Int) (ops : List COp) (h0 : BytesAt w (.slice ao0 xs.length c0) xs) (ho : Octs xs) (hs : xs.length ≤ 140737488351232)
    (_hol : ops.length ≤ 140737488351232) (hops : ∀ (i : Nat) (o : COp), ops[i]? = some o →
      w.cell? ⟨b2, off2 + i * 5, none⟩ = some (.int .i64 o.kind) ∧ w.cell? ⟨b2, off2 + i * 5 + 1, none⟩ = some (.int .i64 o.which) ∧ w.cell? ⟨b2, off2 + i * 5 + 2, none⟩ = some (.int .i64 o.m) ∧
      w.cell? ⟨b2, off2 + i * 5 + 3, none⟩ = some (.int .u64 o.n) ∧ w.cell? ⟨b2, off2 + i * 5 + 4, none⟩ = some (.slice o.ao o.b.length o.cap))
    (hg : ∀ o, o ∈ ops → COp.Good o w) :
    Calls Try.prog 3 #[.agg #[.slice ao0 xs.length c0, .slice ao1 l1 c1, .slice (some ⟨b2, off2, none⟩) ops.length c2]] w fun e w' => e = .returned (.bool true) ∧ Kept [] w w' := by
  have hread := Read_any _ xs _ (h0.kept ((Kept.refl [] w).alloc (.cells #[.slice ao0 xs.length c0, .slice ao1 l1 c1, .slice (some ⟨b2, off2, none⟩) ops.length c2] 26)) (fun _ _ => by simp)) (by omega) ho
  go_enter Try.func3, Try.ntmps3
  go_wp2_with (go_at_call 8; refine hread.mono ?_; rintro e w1 ⟨r, g, rfl, R, hk, hr, hg1⟩)
  have KB : Kept [] w w1 := ((Kept.refl [] w).alloc _).then hk
  have hsb : w1.cell? ⟨w.heap.size, 2, none⟩ = some (.slice (some ⟨b2, off2, none⟩) ops.length c2) := by rw [(hk.last).2.1]; rfl
  have hszw := (hk.last).1
  have HR0 : Hid (Rdr w1 r g xs (plK xs.length 0) (fK xs.length 0)) := R
  simp at hr hg1
  clear hread hk R
  go_loopw [5] (fun i wr => ∃ k : Nat, k ≤ xs.length / 8 + 1 ∧ i = .int .i64 k ∧ Hid (Rdr wr r g xs (plK xs.length k) (fK xs.length k)) ∧ Kept [r] w1 wr) (fun i _ => xs.length / 8 + 1 - (intOf i).toNat)
  case atStart => exact ⟨0, Nat.zero_le _, rfl, HR0, Kept.refl _ _⟩
  case round =>
    obtain ⟨k, hkk, rfl, HR, hK⟩ := hrel
    by_cases hlt : k < xs.length / 8 + 1
    · have hu := U64_any HR.out _ rfl
      obtain ⟨s1, s2⟩ := stops_step xs k (by omega)
      rw [s1, s2] at hu
      clear s1 s2
      go_wp2_with (go_at_call 9; refine hu.mono ?_; rintro e w2 ⟨rfl, hr2, hk2⟩; have HR2 : Hid _ := hr2; clear hr2)
      go_roundw
      case rel => exact ⟨k + 1, by omega, by go_num, HR2, hK.then hk2⟩
      case measure => simp [intOf]; omega
    · obtain rfl : k = xs.length / 8 + 1 := by omega
      have e1 : plK xs.length (xs.length / 8 + 1) = 8 * (xs.length / 8) := if_neg (by omega)
      have e2 : fK xs.length (xs.length / 8 + 1) = 1 := if_neg (by omega)
      rw [e1, e2] at HR
      clear e1 e2 HR0
      have hcur : wr.cell? ⟨w.heap.size, 2, none⟩ = some (.slice (some ⟨b2, off2, none⟩) ops.length c2) := hK.cell hsb (by simp; omega)
      have KW : Kept [] w wr := KB.trans hK (by simp; omega)
      have hfault := Fault_any HR.out (by decide)
      have hat := At_any HR.out
      have hb8 : (8 * ((xs.length : Int) / 8) != (xs.length : Int) / 8 * 8) = false := by rw [bne_eq_false_iff_eq]; omega
      go_wp2_with (first | (go_at_call 11; refine hfault.mono ?_; rintro e w2 ⟨rfl, rfl⟩) | (go_at_call 10; refine (num_any _ _).mono ?_; rintro e w2 ⟨rfl, rfl⟩) | (go_at_call 12; refine hat.mono ?_; rintro e w2 ⟨rfl, rfl⟩))
      clear hfault hat hcur
      go_loopw [6] (fun i wv => ∃ k : Nat, k ≤ ops.length ∧ i = .int .i64 k ∧ Hid (Rdr wv r g xs (8 * (xs.length / 8)) 1) ∧ Kept [r] w1 wv) (fun i _ => ops.length - (intOf i).toNat)
      case atStart => exact ⟨0, Nat.zero_le _, rfl, HR, hK⟩
      case round =>
        clear HR hK KW
        obtain ⟨k, hkk, rfl, HR, hK⟩ := hrel
        have hcur : wr.cell? ⟨w.heap.size, 2, none⟩ = some (.slice (some ⟨b2, off2, none⟩) ops.length c2) := hK.cell hsb (by simp; omega)
        have KW : Kept [] w wr := KB.trans hK (by simp; omega)
        by_cases hlt : k < ops.length
        · by_cases h400 : k < 400
          · obtain ⟨o, hko⟩ : ∃ o, ops[k]? = some o := ⟨_, List.getElem?_eq_getElem hlt⟩
            have hgo := hg o (List.mem_of_getElem? hko)
            obtain ⟨q0, q1, q2, q3, q4⟩ := hops k o hko
            replace q0 := KW.cell q0 (by simp)
            replace q1 := KW.cell q1 (by simp)
            replace q2 := KW.cell q2 (by simp)
            replace q3 := KW.cell q3 (by simp)
            replace q4 := KW.cell q4 (by simp)
            have hsil := silent_any HR.out (by decide) o.kind o.which o.m o.n o.ao o.b.length o.cap hgo.n1 hgo.m1
            clear hko hgo hops hg
            go_wp2_with (first
              | (go_at_call 13; refine hsil.mono ?_; rintro e w2 ⟨rfl, hr2, hk2⟩; have HQ : Hid (∀ n, Rdr (w2.drewN n) r g xs (8 * (xs.length / 8)) 1) := fun n => hr2.kept (S := []) ((Kept.refl _ _).drewN n) (by simp) (by simp); have hfault := Fault_any hr2 (by decide); have hend := End_any hr2 (by decide); rw [if_pos (by decide)] at hend; have HR2 : Hid _ := hr2; clear hr2)
              | (go_at_call 11; refine hfault.mono ?_; rintro e w3 ⟨rfl, rfl⟩)
              | (go_at_call 10; refine (num_any _ _).mono ?_; rintro e w3 ⟨rfl, rfl⟩)
              | (go_at_call 14; refine hend.mono ?_; rintro e w3 ⟨rfl, n3, rfl⟩)
              | (go_at_call 12; refine (At_any (HQ.out _)).mono ?_; rintro e w3 ⟨rfl, rfl⟩)
              | (go_at_call 15; refine (Left_any (HQ.out _)).mono ?_; rintro e w3 ⟨rfl, n4, rfl⟩))
            go_roundw
            case rel => exact ⟨k + 1, by omega, by go_num, HQ.out _, (hK.then hk2).drewN _⟩
            case measure => simp [intOf]; omega
          · go_wp2
            go_ret
            exact ⟨rfl, KW⟩
        · go_wp2
          go_ret
          exact ⟨rfl, KW⟩


theorem stops_any (w : World) (ao0 ao1 ao2 : Option Addr) (l1 c0 c1 c2 : Nat) (xs : List Int) (ops : List COp) (h0 : BytesAt w (.slice ao0 xs.length c0) xs) (ho : Octs xs) (hs : xs.length ≤ 140737488351232)
    (hops : OpsAt w (.slice ao2 ops.length c2) ops) (hg : ∀ o, o ∈ ops → COp.Good o w) :
    Calls Try.prog 3 #[.agg #[.slice ao0 xs.length c0, .slice ao1 l1 c1, .slice ao2 ops.length c2]] w fun e w' => e = .returned (.bool true) ∧ Kept [] w w' := by
  obtain ⟨ao, cap, hv, hl, hc⟩ := hops
  simp only [Value.slice.injEq] at hv
  obtain ⟨rfl, _, rfl⟩ := hv
  by_cases hne : ops = []
  · subst hne
    exact stops_empty w ao0 ao1 ao2 l1 c0 c1 c2 xs h0 ho hs
  · obtain ⟨b, off, rfl, hcells⟩ := hc hne
    exact stops_some w ao0 ao1 b off l1 c0 c1 c2 xs ops h0 ho hs hl hcells hg

end Go.Proofs.Ytbflokiijfomeaa
