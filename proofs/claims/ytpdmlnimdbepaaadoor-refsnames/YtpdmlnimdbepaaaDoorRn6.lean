/-
  WALK: satchellaw14.RefsNames.
-/
import Derived.Test.YtpdmlnimdbepaaaDoorRn5
import Derived.Test.YtpdmlnimdbepaaaDoorLsL
import Derived.Test.YtpdmlnimdbepaaaDoorTabK2
import Derived.Deep.RegionWith
namespace Go.Proofs.YtpdmlnimdbepaaaDoor
open Go.RowKit

set_option maxHeartbeats 1000000 in
theorem num14_any (n : Int) (w : World) : Calls Tryd.prog 5 #[.int .i64 n] w fun e w' => e = .returned (.int .i64 n) ∧ w' = w := by
  go_enter Tryd.func5, Tryd.ntmps5
  go_wp2
  go_ret
  exact ⟨rfl, rfl⟩
theorem good_headsa : checkB [104, 101, 97, 100, 115, 47, 97] = true := by kernel_rfl
theorem bad_slashes : checkB [97, 47, 47, 98] = false := by kernel_rfl
set_option maxHeartbeats 1000000 in
theorem right14_any (w : World) (hT : Tabs w) : Calls Tryd.prog 7 #[] w fun e w' => e = .returned (.bool true) ∧ Kept [] w w' := by
  have h1 : Calls Tryd.prog 4 #[.string ⟨#[104, 101, 97, 100, 115, 47, 97]⟩] w fun e w' => e = .returned (.int .i64 0) ∧ Kept [] w w' := by
    have h := Check_any [104, 101, 97, 100, 115, 47, 97] (fun u hu => by simp at hu; omega) (by decide) w hT
    rw [good_headsa, if_pos rfl] at h
    exact h
  have H2 : Hid (∀ W, Kept [] w W → Calls Tryd.prog 4 #[.string ⟨#[97, 47, 47, 98]⟩] W fun e w' => e = .returned (.int .i64 140) ∧ Kept [] W w') := fun W k => by
    have h := Check_any [97, 47, 47, 98] (fun u hu => by simp at hu; omega) (by decide) W (hT.kept k)
    rw [bad_slashes, if_neg (by decide)] at h
    exact h
  clear hT
  go_enter Tryd.func7, Tryd.ntmps7
  go_wp2_with fail
  go_at_call 4
  refine h1.mono ?_
  rintro e w1 ⟨rfl, k1⟩
  have h2 := H2.out w1 k1
  have HK1 : Hid (Kept [] w w1) := k1
  clear h1 k1
  go_wp2_with (first
    | (go_at_call 5; refine (num14_any _ _).mono ?_; rintro e w9 ⟨rfl, hw9⟩; subst w9)
    | (go_at_call 4; refine h2.mono ?_; rintro e w2 ⟨rfl, k2⟩))
  go_ret
  exact ⟨rfl, HK1.out.then k2⟩

set_option maxRecDepth 100000 in
set_option maxHeartbeats 4000000 in
theorem namesLaw_any (v : Value) (L : List (List Int)) (w : World) (hL : LsAt w v L) (hT : Tabs w) : Calls Tryd.prog 3 #[.agg #[v]] w fun e w' => e = .returned (.bool true) ∧ Kept [] w w' := by
  obtain ⟨W0, hW0⟩ : ∃ W0, W0 = w.alloc (.cells #[v] 24) := ⟨_, rfl⟩
  have k0 : Kept [] w W0 := by rw [hW0]; exact (Kept.refl _ _).alloc _
  have HK0 : Hid (Kept [] w W0) := k0
  have HBx : Hid (∀ W, Kept [] W0 W → W.cell? ⟨w.heap.size, 0, none⟩ = some v) := fun W k => by
    have hb := k.heap (show W0.heap[w.heap.size]? = _ by rw [hW0]; exact heap_alloc_new w _) (by simp)
    rw [cell_of_row _ _ _ _ _ _ hb]
    rfl
  have HL : Hid (∀ W, Kept [] W0 W → LsAt W v L) := fun W k => hL.kept (k0.then k)
  have HT : Hid (∀ W, Kept [] W0 W → Tabs W) := fun W k => hT.kept (k0.then k)
  have HW0 : Hid (W0 = w.alloc (.cells #[v] 24)) := hW0
  obtain ⟨ao, cap, rfl, hLl, HLo, _⟩ := hL
  clear hT k0 hW0
  go_enter Tryd.func3, Tryd.ntmps3
  go_wp2
  go_loopw [3] (fun s3 wr => ∃ k : Nat, k ≤ L.length ∧ s3 = .int .i64 k ∧ Hid (Kept [] W0 wr)) (fun s3 _ => L.length - (intOf s3).toNat)
  case atStart => exact ⟨0, Nat.zero_le _, rfl, by rw [HW0.out]; exact Kept.refl _ _⟩
  case round =>
    obtain ⟨k, hk, rfl, HK⟩ := hrel
    have g0 := HBx.out wr HK.out
    by_cases hlt : k < L.length
    · have t0 : decide ((k : Int) < (L.length : Int)) = true := by simp; omega
      obtain ⟨xs, hxs⟩ : ∃ xs, L[k]? = some xs := ⟨_, List.getElem?_eq_getElem hlt⟩
      obtain ⟨ao', cap', he, _, _, hc⟩ := HL.out wr HK.out
      injection he with e1 e2 e3
      subst e1 e3
      obtain ⟨b, off, rfl, hh⟩ := hc (by rintro rfl; simp at hlt)
      obtain ⟨u, hu1, hu2⟩ := hh k xs hxs
      obtain ⟨hox, hlx⟩ := HLo xs (List.mem_of_getElem? hxs)
      have HCV : Hid (∀ W, Kept [] wr W → (convert 27 9 u).run Tryd.prog W = .ok (.string (strOfNums xs)) W) := fun W kW => (hu2.kept' kW (fun _ _ _ => by simp)).conv
      have HCL : Hid (∀ W, Kept [] wr W → W.cell? ⟨b, off + k, none⟩ = some u ∧ W.cell? ⟨w.heap.size, 0, none⟩ = some (.slice (some ⟨b, off, none⟩) L.length cap)) := fun W kW => ⟨kW.cell hu1 (by simp), HBx.out W (HK.out.then kW)⟩
      have hck := Check_any xs hox (by omega) wr (HT.out wr HK.out)
      have HRC : Hid (∀ W, Calls Tryd.prog 6 #[.string (strOfNums xs)] W fun e w' => e = .returned (.int .i64 (if checkB xs = true then 0 else 140)) ∧ Kept [] W w') := fun W => R14Check_any xs hox (by omega) W
      have hcv := HCV.out wr (Kept.refl _ _)
      obtain ⟨n, hn⟩ : ∃ n : Int, n = (if checkB xs = true then 0 else 140) := ⟨_, rfl⟩
      rw [← hn] at hck HRC
      have i0 : (0 : Int) ≤ (k : Int) := by omega
      have i1 : (k : Int) < (L.length : Int) := by omega
      clear hn hh hc hxs hu2 hox hlx
      generalize strOfNums xs = S at *
      go_wp2_with fail
      go_at_call 4
      refine hck.mono ?_
      rintro e w1 ⟨rfl, k1⟩
      obtain ⟨g1, g2⟩ := HCL.out w1 k1
      have hcv1 := HCV.out w1 k1
      have hcv2 := HCV.out w1.drew k1.drew
      have HK1 : Hid (Kept [] W0 w1) := HK.out.then k1
      clear hck hcv k1
      go_wp2_with fail
      go_region_with (first
        | (go_at_call 5; refine (num14_any _ _).mono ?_; rintro e w9 ⟨rfl, hw9⟩; subst w9)
        | (go_at_call 6; refine (HRC.out _).mono ?_; rintro e w2 ⟨rfl, k2⟩
           have HK2 : Hid (Kept [] W0 w2) := (HK1.out.drew).then k2
           clear k2))
      all_goals
        go_wp2
        go_roundw
        case rel => exact ⟨k + 1, by omega, by go_num, HK2⟩
        case measure => simp [intOf]; omega
    · have t0 : decide ((k : Int) < (L.length : Int)) = false := by simp; omega
      have hr := right14_any wr (HT.out wr HK.out)
      go_wp2_with fail
      go_at_call 7
      refine hr.mono ?_
      rintro e w1 ⟨rfl, k1⟩
      go_wp2
      go_ret
      exact ⟨rfl, HK0.out.then (HK.out.then k1)⟩
end Go.Proofs.YtpdmlnimdbepaaaDoor
