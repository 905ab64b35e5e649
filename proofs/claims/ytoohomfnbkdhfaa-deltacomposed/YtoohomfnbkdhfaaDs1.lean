/-
  WALK: satchellaw7.DeltaStrict.
-/
import Derived.Test.YtoohomfnbkdhfaaDs0
import Derived.Test.YtoohomfnbkdhfaaDlLv
import Derived.Test.YtoohomfnbkdhfaaDlN
import Derived.Test.YtoohomfnbkdhfaaRCopy
namespace Go.Proofs.Ytoohomfnbkdhfaa
open Go.RowKit

theorem into7_any (n m : Int) (w : World) (hm : 1 ≤ m) (hm1 : m ≤ 1000000) (h0 : -9223372036854775808 ≤ n) (h1 : n ≤ 9223372036854775807) : Calls Try.prog 10 #[.int .i64 n, .int .i64 m] w fun e w' => e = .returned (.int .i64 (n % m)) ∧ w' = w := by
  by_cases hn : 0 ≤ n
  · go_enter Try.func10, Try.ntmps10
    have hp : 0 ≤ n % m := Int.emod_nonneg n (by omega)
    go_wp2
    go_ret
    exact ⟨rfl, rfl⟩
  · have ht : n.tmod m = if n % m = 0 then 0 else n % m - m := by
      rw [Int.tmod_eq_emod]
      have h2 : ¬ (0 ≤ n) := hn
      by_cases hz : n % m = 0
      · rw [if_pos (Or.inr (Int.dvd_of_emod_eq_zero hz)), if_pos hz, hz]; rfl
      · rw [if_neg (by rintro (h | h); · exact hn h
                       · exact hz (Int.emod_eq_zero_of_dvd h)), if_neg hz]
        omega
    have hp : 0 ≤ n % m := Int.emod_nonneg n (by omega)
    have hq : n % m < m := Int.emod_lt_of_pos n (by omega)
    obtain ⟨k, hk⟩ : ∃ k, k = n % m := ⟨_, rfl⟩
    rw [← hk] at ht hp hq ⊢
    by_cases hz : k = 0
    · rw [if_pos hz] at ht
      subst hz
      clear hk
      go_enter Try.func10, Try.ntmps10
      go_wp2
      go_ret
      exact ⟨rfl, rfl⟩
    · rw [if_neg hz] at ht
      clear hk
      go_enter Try.func10, Try.ntmps10
      go_wp2
      go_ret
      exact ⟨by simp, rfl⟩


theorem own_row {w : World} {B g : Nat} {ys : List Int} (h : w.heap[g]? = some (.cells (ys.map (Value.int .u8)).toArray 5 (0, 0))) (hB : B ≤ g) (hm : ys.length ≤ 140737488355328) : OwnB w B (.slice (some ⟨g, 0, none⟩) ys.length ys.length) ys := by
  refine ⟨by simp, Or.inr ⟨g, ys.length, _, rfl, hB, h, Nat.le_refl _, by unfold maxLen; omega, by simp, ?_⟩⟩
  rw [Nat.mul_one]
  exact List.take_of_length_le (by simp)
theorem apply_other (bs ms ts : List Int) (cs : List Cd) (hb : bs.length ≤ 65536) (ht : ts.length ≤ 65536) (hm : ms ≠ []) : applyL (bs ++ ms) (delL bs ts cs) = (71, []) := by
  unfold applyL
  have h := head_del bs ts cs [] hb ht (fun n => decide (n = (bs ++ ms).length))
  rw [List.append_nil] at h
  rw [h, if_pos]
  · rfl
  · have := List.length_pos_iff.2 hm
    rw [List.length_append]
    simp
    omega
theorem del_two (bs ts : List Int) (cs : List Cd) : 2 ≤ (delL bs ts cs).length := by
  unfold delL
  rw [List.length_append, List.length_append]
  have h1 := wd_pos bs.length
  have h2 := wd_pos ts.length
  unfold wd at h1 h2
  omega

set_option maxRecDepth 100000 in
set_option maxHeartbeats 4000000 in
theorem strict_any {w : World} {ab ad am : Option Addr} {cb ct cm : Nat} {bs ts ms : List Int} {a : Int} (hb : BytesAt w (.slice ab bs.length cb) bs) (hob : Octs bs) (hsb : bs.length ≤ 2097152) (ht : BytesAt w (.slice ad ts.length ct) ts) (hot : Octs ts) (hst : ts.length ≤ 2097152)
    (ha0 : -9223372036854775808 ≤ a) (ha1 : a ≤ 9223372036854775807) (hmo : BytesAt w (.slice am ms.length cm) ms) (hom : Octs ms) (hsm : ms.length ≤ 2097152) :
    Calls Try.prog 4 #[.agg #[.slice ab bs.length cb, .slice ad ts.length ct, .int .i64 a, .slice am ms.length cm]] w fun e w' => e = .returned (.bool true) ∧ Kept [] w w' := by
  have HB : Hid (∀ W, Kept [] w W → BytesAt W (.slice ab bs.length cb) bs) := fun W k => hb.kept k (fun _ _ => by simp)
  have HT : Hid (∀ W, Kept [] w W → BytesAt W (.slice ad ts.length ct) ts) := fun W k => ht.kept k (fun _ _ => by simp)
  have HMo : Hid (∀ W, Kept [] w W → BytesAt W (.slice am ms.length cm) ms) := fun W k => hmo.kept k (fun _ _ => by simp)
  obtain ⟨W0, hW0⟩ : ∃ W0, W0 = w.alloc (.cells #[.slice ab bs.length cb, .slice ad ts.length ct, .int .i64 a, .slice am ms.length cm] 43) := ⟨_, rfl⟩
  have k0 : Kept [] w W0 := hW0 ▸ (Kept.refl [] w).alloc _
  have bx0 : W0.heap[w.heap.size]? = some (.cells #[.slice ab bs.length cb, .slice ad ts.length ct, .int .i64 a, .slice am ms.length cm] 43 (0, 0)) := hW0 ▸ heap_alloc_new w _
  have hlv := lives_any W0
  have HK0 : Hid (∀ W, Kept [] W0 W → Kept [] w W) := fun W k => k0.then k
  have HC : Hid (∀ W, Kept [] W0 W → ∀ o, W.cell? ⟨w.heap.size, o, none⟩ = #[Value.slice ab bs.length cb, .slice ad ts.length ct, .int .i64 a, .slice am ms.length cm][o]?) := fun W k o => cell_of_row _ _ _ _ _ _ (k.heap bx0 (by simp))
  clear hb ht hmo k0 bx0
  rw [hW0] at hlv
  go_enter Try.func4, Try.ntmps4
  go_wp2_with fail
  go_at_call 8
  refine hlv.mono ?_
  rintro e w1 ⟨rfl, k1⟩
  rw [← hW0] at k1
  have c1 := HC.out w1 k1
  by_cases hl : bs.length ≤ 65536 ∧ ts.length ≤ 65536
  · obtain ⟨hb1, ht1⟩ := hl
    have hmk := Make_any (HB.out _ (HK0.out _ k1)) hob (by omega) (HT.out _ (HK0.out _ k1)) hot (by omega)
    have t1 : decide (65536 < (bs.length : Int)) = false := by simp; omega
    have t2 : decide (65536 < (ts.length : Int)) = false := by simp; omega
    clear hlv
    go_wp2_with fail
    go_at_call 17
    refine hmk.mono ?_
    rintro e w2 ⟨k2, _, hok⟩
    obtain ⟨q, cs, rfl, hq, hqn, hcs, htx, _⟩ := hok hb1 ht1
    have hap := apply_del bs ts cs [] hb1 ht1 hcs htx
    rw [List.append_nil, if_pos rfl] at hap
    have hod := octs_del bs ts cs hb1 ht1 hot hcs htx
    have hd2 := del_two bs ts cs
    have hoth := apply_other bs ms ts cs hb1 ht1
    have hdl : (delL bs ts cs).length ≤ 200000 := by
      obtain ⟨p, hp⟩ := lcp_ex bs ts
      obtain ⟨s, hs⟩ := lcs_ex (bs.drop p) (ts.drop p)
      rename_i hbound
      have := hbound p s hp hs
      omega
    have K2 : Kept [] W0 w2 := k1.then k2
    clear hcs htx
    generalize delL bs ts cs = ds at *
    have HDS : Hid (∀ W, Kept [] w2 W → BytesAt W (.slice (some ⟨q, 0, none⟩) ds.length ds.length) ds) := fun W k => (raw_row hq).kept k (fun _ _ => by simp)
    have HAP : Hid (applyL bs ds = (0, ts)) := hap
    have HOTH : Hid (ms ≠ [] → applyL (bs ++ ms) ds = (71, [])) := hoth
    have HK2 : Hid (Kept [] W0 w2) := K2
    obtain ⟨k, hk, hk2⟩ : ∃ k : Nat, a % (ds.length : Int) = k ∧ k < ds.length := by
      have e1 := Int.emod_nonneg a (show (ds.length : Int) ≠ 0 by omega)
      have e2 := Int.emod_lt_of_pos a (show (0 : Int) < ds.length by omega)
      exact ⟨(a % (ds.length : Int)).toNat, by omega, by omega⟩
    have hint := fun W => into7_any a (ds.length : Int) W (by omega) (by omega) ha0 ha1
    rw [hk] at hint
    obtain ⟨R1, hR1⟩ : ∃ R, Hid (R = applyL bs (ds.take k)) := ⟨_, rfl⟩
    have hr1 : R1.1 ≠ 0 := by rw [hR1.out]; exact apply_cut bs ds hod ts HAP.out k hk2
    have hr2 : R1.2 = [] := by rw [hR1.out] at hr1 ⊢; exact applyL_nil _ _ hr1
    have happ := fun n => Apply_any (HB.out _ ((HK0.out _ K2).drewN n)) (bytes_head (HDS.out _ ((Kept.refl [] w2).drewN n)) k (by omega)) (octs_take hod k) (by rw [List.length_take]; omega) R1 hR1
    have hnum := num7_any 0 w2
    have t3 : decide ((ds.length : Int) < 2) = false := by simp; omega
    have c2 := HC.out w2 K2
    clear hmk hap hoth hq hqn k1 k2 c1 hk K2
    go_wp2_with fail
    go_at_call 15
    refine hnum.mono ?_
    rintro e w3 ⟨rfl, hw3⟩
    subst w3
    have i0 : (0 : Int) ≤ k := by omega
    have i1 : (k : Int) ≤ ds.length := by omega
    clear hnum
    go_wp2_with fail
    go_cut [5, 6] from 40 to 53 (fun s5 s6 wx => ∃ a5 c5, s5 = .slice a5 0 c5 ∧ s6 = .int .i64 R1.1 ∧ Hid (Kept [] w2 wx))
    case first =>
      go_region_with (first
        | (go_at_call 10; refine (hint _).mono ?_; rintro e w3 ⟨rfl, hw3⟩; subst w3)
        | (go_at_call 14; refine (happ _).mono ?_; rintro e w3 ⟨v1, rfl, s1, s2, s3⟩; have HK3 : Hid (Kept [] w2 w3) := s2.undrewN; rw [hr2] at s1; obtain ⟨a5, c5, rfl, _⟩ := s1; clear s2 s3))
      all_goals (go_wp2_with fail; go_meet; exact ⟨_, _, rfl, rfl, HK3.out⟩)
    case rest =>
    obtain ⟨a5, c5, rfl, rfl, HK3⟩ := hcut
    have HK4 : Hid (Kept [] W0 wc) := HK2.out.then HK3.out
    have hnum := num7_any R1.1 wc
    have e1 : (R1.1 == 0) = false := by simpa using hr1
    clear hint happ hR1 c2
    go_wp2_with fail
    go_at_call 15
    refine hnum.mono ?_
    rintro e w3 ⟨rfl, hw3⟩
    subst w3
    clear hnum
    have HO0 : Hid (OwnB wc wc.heap.size (.slice none 0 0) []) := World.ownsRow_nil _ _ _ _
    have HD4 : Hid (BytesAt wc (.slice (some ⟨q, 0, none⟩) ds.length ds.length) ds) := HDS.out _ HK3.out
    obtain ⟨u6, hu6⟩ : ∃ u6, u6 = ds ++ [0] := ⟨_, rfl⟩
    obtain ⟨u7, hu7⟩ : ∃ u7, u7 = u6 ++ ms := ⟨_, rfl⟩
    have HU6 : Hid (ds ++ [0] = u6) := hu6.symm
    have HU7 : Hid (u6 ++ ms = u7) := hu7.symm
    have l6 : u6.length ≤ 300000 := by rw [hu6, List.length_append]; simp; omega
    have l7 : u7.length ≤ 3000000 := by rw [hu7, List.length_append]; omega
    have hou7 : Octs u7 := by
      intro u hu
      rw [hu7] at hu
      rcases List.mem_append.1 hu with h | h
      · rw [hu6] at h
        rcases List.mem_append.1 h with h | h
        · exact hod u h
        · simp at h; subst h; omega
      · exact hom u h
    have HR7 : Hid (applyL bs u7 = (70, [])) := by
      have e := apply_ext bs ds ([0] ++ ms) hod (by simp) ts HAP.out
      rw [hu7, hu6, List.append_assoc]
      exact e
    clear hu6 hu7
    have lz : ([] : List Int).length + ds.length ≤ 140737488355328 := by simp; omega
    have ly : ds.length + [(0 : Int)].length ≤ 140737488355328 := by simp; omega
    have lx : u6.length + ms.length ≤ 140737488355328 := by omega
    go_wp2_with (first
      | (at_builtin; refine wpList_append_bytes (by rfl) (.tmp 61) (.tmp 62) (by rfl) (by rfl) HO0.out (by rfl) HD4.out lz (Nat.le_refl _) ?_; intro v5 w5 ha5
         have ho5 : OwnB w5 wc.heap.size v5 ds := by have e := ha5.own; rw [List.nil_append] at e; exact e
         have HK5 : Hid (Kept [] wc w5) := ha5.keep wc [] (Kept.refl _ _) (fun x hx => by cases hx)
         obtain ⟨g5, y5, rfl⟩ := own_shape ho5
         have HO5 : Hid (OwnB (w5.alloc (.cells #[.int .u8 0] 5)) wc.heap.size (.slice g5 ds.length y5) ds) := ho5.kept (T := []) ((Kept.refl _ _).alloc _) (by simp)
         have HX5 : Hid (BytesAt (w5.alloc (.cells #[.int .u8 0] 5)) (.slice (some ⟨w5.heap.size, 0, none⟩) 1 1) [0]) := (OwnB.one 0).bytes
         have hb5 : wc.heap.size ≤ (w5.alloc (.cells #[.int .u8 0] 5)).heap.size := by rw [World.size_alloc]; have := HK5.out.size; omega
         clear ha5 ho5)
      | (at_builtin; refine wpList_append_bytes (by rfl) (.tmp 64) (.tmp 65) (by rfl) (by rfl) HO5.out (by rfl) HX5.out ly hb5 ?_; intro v6 w6 ha6
         have ho6 : OwnB w6 wc.heap.size v6 u6 := by have e := ha6.own; rw [HU6.out] at e; exact e
         have HK6 : Hid (Kept [] wc w6) := ha6.keep wc [] (HK5.out.alloc _) (fun x hx => Or.inr (World.ownsRow.lt HO5.out x hx).1)
         obtain ⟨g6, y6, rfl⟩ := own_shape ho6
         have HO6 : Hid (OwnB w6 wc.heap.size (.slice g6 u6.length y6) u6) := ho6
         have HX6 : Hid (BytesAt w6 (.slice am ms.length cm) ms) := HMo.out _ (HK0.out _ (HK4.out.then HK6.out))
         have c6 := HC.out w6 (HK4.out.then HK6.out)
         have hb6 := HK6.out.size
         clear ha6 ho6)
      | (at_builtin; refine wpList_append_bytes (by rfl) (.tmp 67) (.tmp 69) (by rfl) (by rfl) HO6.out (by rfl) HX6.out lx hb6 ?_; intro v7 w7 ha7
         have ho7 : OwnB w7 wc.heap.size v7 u7 := by have e := ha7.own; rw [HU7.out] at e; exact e
         have HK7 : Hid (Kept [] wc w7) := ha7.keep wc [] HK6.out (fun x hx => Or.inr (World.ownsRow.lt HO6.out x hx).1)
         obtain ⟨g7, y7, rfl⟩ := own_shape ho7
         have HO7 : Hid (OwnB w7 wc.heap.size (.slice g7 u7.length y7) u7) := ho7
         have c7 := HC.out w7 (HK4.out.then HK7.out)
         have happ7 := Apply_any (HB.out _ (HK0.out _ (HK4.out.then HK7.out))) HO7.out.bytes hou7 (by omega) (70, []) HR7.out.symm
         clear ha7 ho7)
      | (go_at_call 14; refine happ7.mono ?_; rintro e w8 ⟨v8, rfl, s1, s2, s3⟩
         have HK8 : Hid (Kept [] W0 w8) := (HK4.out.then HK7.out).then s2
         have HD8 : Hid (Kept [] w2 w8) := (HK3.out.then HK7.out).then s2
         obtain ⟨a8, c8, rfl, _⟩ := s1
         have c9 := HC.out w8 HK8.out
         have hnum8 := num7_any 70 w8
         have hcp := Copy_any _ bs w8 (HB.out _ (HK0.out _ HK8.out)) (by omega)
         clear happ7 s2 s3 c7 c6)
      | (go_at_call 15; refine hnum8.mono ?_; rintro e w9 ⟨rfl, hw9⟩; subst w9; clear hnum8))
    go_at_call 18
    refine hcp.mono ?_
    rintro e w9 ⟨rfl, hq9, k9⟩
    have HK9 : Hid (Kept [] W0 w9) := HK8.out.then k9
    have HK89 : Hid (Kept [] w8 w9) := k9
    have HK08 : Hid (Kept [] W0 w8) := HK8.out
    have HD08 : Hid (Kept [] w2 w8) := HD8.out
    have HD9 : Hid (Kept [] w2 w9) := HD8.out.then k9
    have HO9 : Hid (OwnB w9 w8.heap.size (.slice (some ⟨w8.heap.size, 0, none⟩) bs.length bs.length) bs) := own_row hq9 (Nat.le_refl _) (by omega)
    have HX9 : Hid (BytesAt w9 (.slice am ms.length cm) ms) := HMo.out _ (HK0.out _ HK9.out)
    have c10 := HC.out w9 HK9.out
    have hb9 : w8.heap.size ≤ w9.heap.size := k9.size
    have l9 : bs.length + ms.length ≤ 140737488355328 := by omega
    obtain ⟨u10, hu10⟩ : ∃ u10, u10 = bs ++ ms := ⟨_, rfl⟩
    have HU10 : Hid (bs ++ ms = u10) := hu10.symm
    have HL10 : Hid (u10.length ≤ 4000000) := by rw [hu10, List.length_append]; exact (by omega : bs.length + ms.length ≤ 4000000)
    clear hu10 hcp k9 hq9 c9 HK8 HD8 HO0 HO5 HO6 HO7 HX5 HX6 HK5 HK6 HK7 HD4 HK3 HK4 HR7 HU6 HU7
    by_cases hms : ms = []
    · have hR10 : Hid ((0, ts) = applyL u10 ds) := by
        have e : applyL u10 ds = (0, ts) := by rw [← HU10.out, hms, List.append_nil]; exact HAP.out
        exact e.symm
      have t9 : ((ms.length : Int) == 0) = true := by rw [hms]; rfl
      clear hms
      have HT11 : Hid (∀ W, Kept [] W0 W → BytesAt W (.slice ad ts.length ct) ts) := fun W k => HT.out _ (HK0.out _ k)
      go_wp2_with (first
        | (at_builtin; refine wpList_append_bytes (by rfl) (.tmp 89) (.tmp 91) (by rfl) (by rfl) HO9.out (by rfl) HX9.out l9 hb9 ?_; intro v11 w11 ha11
           have ho11 : OwnB w11 w8.heap.size v11 u10 := by have e := ha11.own; rw [HU10.out] at e; exact e
           have k11 : Kept [] w8 w11 := ha11.keep w8 [] HK89.out (fun x hx => Or.inr (World.ownsRow.lt HO9.out x hx).1)
           have HK11 : Hid (Kept [] W0 w11) := HK08.out.then k11
           have HD11 : Hid (Kept [] w2 w11) := HD08.out.then k11
           obtain ⟨g11, y11, rfl⟩ := own_shape ho11
           have happ11 := Apply_any ho11.bytes (HDS.out _ HD11.out) hod (by omega) (0, ts) hR10
           have c11 := HC.out w11 HK11.out
           clear ha11 ho11 k11)
        | (go_at_call 14; refine happ11.mono ?_; rintro e w12 ⟨v12, rfl, s1, s2, s3⟩
           have HK12 : Hid (Kept [] W0 w12) := HK11.out.then s2
           have c12 := HC.out w12 HK12.out
           have hnum12 := num7_any 0 w12
           have heq12 := Eq_same s1 (HT11.out _ HK12.out) (by dsimp only; omega)
           obtain ⟨a12, c13, rfl, _⟩ := s1
           clear happ11 s2 s3)
        | (go_at_call 15; refine hnum12.mono ?_; rintro e w13 ⟨rfl, hw13⟩; subst w13; clear hnum12)
        | (go_at_call 16; refine heq12.mono ?_; rintro e w13 ⟨rfl, n13, rfl⟩))
      go_ret
      exact ⟨rfl, (HK0.out _ HK12.out).drewN _⟩
    · have hR10 : Hid ((71, []) = applyL u10 ds) := by
        have e : applyL u10 ds = (71, []) := by rw [← HU10.out]; exact HOTH.out hms
        exact e.symm
      have t9 : ((ms.length : Int) == 0) = false := by have := List.length_pos_iff.2 hms; simp; omega
      go_wp2_with (first
        | (at_builtin; refine wpList_append_bytes (by rfl) (.tmp 89) (.tmp 91) (by rfl) (by rfl) HO9.out (by rfl) HX9.out l9 hb9 ?_; intro v11 w11 ha11
           have ho11 : OwnB w11 w8.heap.size v11 u10 := by have e := ha11.own; rw [HU10.out] at e; exact e
           have k11 : Kept [] w8 w11 := ha11.keep w8 [] HK89.out (fun x hx => Or.inr (World.ownsRow.lt HO9.out x hx).1)
           have HK11 : Hid (Kept [] W0 w11) := HK08.out.then k11
           have HD11 : Hid (Kept [] w2 w11) := HD08.out.then k11
           obtain ⟨g11, y11, rfl⟩ := own_shape ho11
           have happ11 := Apply_any ho11.bytes (HDS.out _ HD11.out) hod (by omega) (71, []) hR10
           have c11 := HC.out w11 HK11.out
           clear ha11 ho11 k11)
        | (go_at_call 14; refine happ11.mono ?_; rintro e w12 ⟨v12, rfl, s1, s2, s3⟩
           have HK12 : Hid (Kept [] W0 w12) := HK11.out.then s2
           have c12 := HC.out w12 HK12.out
           have hnum12 := num7_any 71 w12
           obtain ⟨a12, c13, rfl, _⟩ := s1
           clear happ11 s2 s3)
        | (go_at_call 15; refine hnum12.mono ?_; rintro e w13 ⟨rfl, hw13⟩; subst w13; clear hnum12))
      go_ret
      exact ⟨rfl, HK0.out _ HK12.out⟩
  · have hlv2 := lives_any w1
    have K1 := HK0.out _ k1
    have HL : Hid (¬ (bs.length ≤ 65536 ∧ ts.length ≤ 65536)) := hl
    clear hlv hl
    by_cases hb1 : bs.length ≤ 65536
    · have t1 : decide (65536 < (bs.length : Int)) = false := by simp; omega
      have t2 : decide (65536 < (ts.length : Int)) = true := by have := HL.out; simp; omega
      go_wp2_with fail
      go_at_call 8
      refine hlv2.mono ?_
      rintro e w2 ⟨rfl, k2⟩
      have HF : Hid (Kept [] w w2) := K1.then k2
      clear hlv2 k2
      go_wp2
      go_ret
      exact ⟨rfl, HF.out⟩
    · have t1 : decide (65536 < (bs.length : Int)) = true := by simp; omega
      go_wp2_with fail
      go_at_call 8
      refine hlv2.mono ?_
      rintro e w2 ⟨rfl, k2⟩
      have HF : Hid (Kept [] w w2) := K1.then k2
      clear hlv2 k2
      go_wp2
      go_ret
      exact ⟨rfl, HF.out⟩
end Go.Proofs.Ytoohomfnbkdhfaa
