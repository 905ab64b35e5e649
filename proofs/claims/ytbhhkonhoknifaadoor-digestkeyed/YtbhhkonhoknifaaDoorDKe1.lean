/-
  WALK: satchellaw2.DigestKeyed, for every key and text.
-/
import Derived.Test.YtbhhkonhoknifaaDoorDKe0
import Derived.Deep.Cut
import Derived.Deep.CutRange
namespace Go.Proofs.YtbhhkonhoknifaaDoor
open Go.RowKit

set_option maxRecDepth 100000 in
set_option maxHeartbeats 8000000 in
theorem digestKeyed_any (w : World) (hV : Vars w) (ao : Option Addr) (cap : Nat) (xs : List Int) (hx : BytesAt w (.slice ao xs.length cap) xs) (hox : Octs xs) (hsx : xs.length ≤ 140737488351232)
    (ko : Option Addr) (kcap : Nat) (ks : List Int) (hk : BytesAt w (.slice ko ks.length kcap) ks) (hok : Octs ks) (hsk : ks.length ≤ 140737488351232) (cv : Value) :
    Calls Tryd.prog 5 #[.agg #[.slice ao xs.length cap, .slice ko ks.length kcap, cv]] w fun e w' => e = .returned (.bool true) ∧ Kept [] w w' := by
  have HV : Hid (∀ W, Kept [] w W → Vars W) := fun W hk => hV.kept hk (by simp) (by simp)
  have HX : Hid (∀ W, Kept [] w W → BytesAt W (.slice ao xs.length cap) xs) := fun W hW => hx.kept' hW (by simp)
  have HK : Hid (∀ W, Kept [] w W → BytesAt W (.slice ko ks.length kcap) ks) := fun W hW => hk.kept' hW (by simp)
  have HKX : Hid (∀ W v K, Kept [] w W → BytesAt W v K → Octs K → K.length ≤ 140737488355328 → Calls Tryd.prog 14 #[v, .slice ao xs.length cap] W fun e w' => e = .returned (.agg (idC (keyL K xs))) ∧ Kept [] W w') := fun W v K hW hv ho hl => Keyed_any W (HV.out W hW) v _ K xs hv ho hl (HX.out W hW) hox (by omega)
  obtain ⟨bx, hbx⟩ : ∃ bx : Array Value, bx = #[.slice ao xs.length cap, .slice ko ks.length kcap, cv] := ⟨_, rfl⟩
  have HBX : Hid (bx = #[.slice ao xs.length cap, .slice ko ks.length kcap, cv]) := hbx
  have HR := right2_any (w.alloc (.cells #[.slice ao xs.length cap, .slice ko ks.length kcap, cv] 41)) (HV.out _ ((Kept.refl [] w).alloc _))
  have HC : Hid (∀ W : World, W.heap[w.heap.size]? = some (.cells bx 41 (0, 0)) → W.cell? ⟨w.heap.size, 0, none⟩ = some (.slice ao xs.length cap) ∧ W.cell? ⟨w.heap.size, 1, none⟩ = some (.slice ko ks.length kcap)) := fun W hW => by
    rw [cell_of_row _ _ _ _ _ _ hW, cell_of_row _ _ _ _ _ _ hW, hbx]
    exact ⟨rfl, rfl⟩
  have HB0 : Hid ((w.alloc (.cells #[.slice ao xs.length cap, .slice ko ks.length kcap, cv] 41)).heap[w.heap.size]? = some (.cells bx 41 (0, 0))) := by rw [hbx]; exact heap_alloc_new w _
  clear hV hbx
  obtain ⟨K, hKe⟩ : ∃ K, K = shortK ks := ⟨_, rfl⟩
  have hKl : K.length ≤ 64 := by rw [hKe]; exact shortK_len ks
  have hKo : Octs K := by
    rw [hKe]
    unfold shortK
    split
    · exact digL_octs _
    · exact hok
  have HKE : Hid (K = shortK ks) := hKe
  clear hKe
  go_enter Tryd.func5, Tryd.ntmps5
  go_upto_if 17 with (first
    | (go_at_call 10; refine HR.mono ?_; rintro e w1 ⟨rfl, hk1⟩
       have HK1 : Hid (Kept [] w w1) := ((Kept.refl [] w).alloc _).then hk1
       have HB1 : Hid (w1.heap[w.heap.size]? = some (.cells bx 41 (0, 0))) := hk1.heap HB0.out (by simp)
       obtain ⟨c0, c1⟩ := HC.out w1 HB1.out
       have HP1 := Copy0_any _ ks w1 (HK.out w1 HK1.out) (by omega)
       clear hk1 HR)
    | (go_at_call 16; refine HP1.mono ?_; rintro e w2 ⟨rfl, hr2, hk2⟩
       have HK2 : Hid (Kept [] w w2) := HK1.out.then hk2
       have HB2 : Hid (w2.heap[w.heap.size]? = some (.cells bx 41 (0, 0))) := hk2.heap HB1.out (by simp)
       have HR2 : Hid (w2.heap[w1.heap.size]? = some (.cells (ks.map (Value.int .u8)).toArray 5 (0, 0))) := hr2
       have hg1 : w.heap.size < w1.heap.size := lt_of_block HB1.out
       generalize w1.heap.size = g at *
       clear hk2 hr2 HP1))
  go_cut [3, 4] from 17 to 31 (fun s3 _ wx => ∃ g', s3 = .slice (some ⟨g', 0, none⟩) K.length K.length ∧ w.heap.size < g' ∧ Hid (wx.heap[g']? = some (.cells (K.map (Value.int .u8)).toArray 5 (0, 0))) ∧ Hid (wx.heap[w.heap.size]? = some (.cells bx 41 (0, 0))) ∧ Hid (Kept [] w wx))
  case first =>
    by_cases hlong : 64 < ks.length
    · have hlf : decide (64 < (ks.length : Int)) = true := decide_eq_true (by omega)
      have hl64 : (64 : Int) < (ks.length : Int) := by omega
      have hKe := HKE.out
      have hKd : K = digL ks := hKe.trans (if_pos hlong)
      have hK32 : K.length = 32 := by rw [hKd]; exact digL_len _
      obtain ⟨dc, hdc⟩ : ∃ dc, dc = idC K := ⟨_, rfl⟩
      have hszd : (Tryd.prog.info? 29).map (·.size) = some dc.size := by rw [hdc, idC_size hK32]; exact Tryd.infoID
      have halld : dc.all (·.oneCell') = true := by rw [hdc]; exact all_oneCell_toArray (map_oneCell _)
      have hd32 : dc.size = 32 := by rw [hdc, idC_size hK32]
      have HS0 := Sum_any w2 (.slice (some ⟨g, 0, none⟩) ks.length ks.length) ks (HV.out _ HK2.out) (row_bytes' HR2.out) hok (by omega)
      rw [← hKd, ← hdc] at HS0
      obtain ⟨ic, hic⟩ : ∃ ic, ic = idC (keyL ks xs) := ⟨_, rfl⟩
      have heq : ∀ W, (Op.equalIn 10000 29 (.agg ic) (.agg ic)).run Tryd.prog W = .ok true W := fun W => by rw [hic, idEq _ _ W (keyL_len _ _) (keyL_len _ _), decide_eq_true rfl]
      have HKK : Hid (∀ W v, Kept [] w W → BytesAt W v K → Calls Tryd.prog 14 #[v, .slice ao xs.length cap] W fun e w' => e = .returned (.agg ic) ∧ Kept [] W w') := fun W v hW hv => by
        rw [hic, ← keyL_shortK, ← hKe]
        exact HKX.out W v _ hW hv hKo (by omega)
      have HKE2 : Hid (∀ W, Kept [] w W → Calls Tryd.prog 14 #[.slice ko ks.length kcap, .slice ao xs.length cap] W fun e w' => e = .returned (.agg ic) ∧ Kept [] W w') := by
        rw [hic]
        exact fun W hW => HKX.out W _ ks hW (HK.out W hW) hok (by omega)
      have HDC : Hid (dc = idC K) := hdc
      have HK32 : Hid (K.length = 32) := hK32
      have hs32 := slice_all32
      clear hic hdc hKd hKe hK32
      go_wp2_with (first
        | (go_at_call 12; refine HS0.mono ?_; rintro e w5 ⟨rfl, hk5⟩
           have HK5 : Hid (Kept [] w w5) := HK2.out.then hk5
           have HB5 : Hid (w5.heap[w.heap.size]? = some (.cells bx 41 (0, 0))) := hk5.heap HB2.out (by simp)
           clear hk5 HS0)
        | (refine wpList_store_row (by rfl) 29 (.tmp 4) (.tmp 19) (by rfl) w5.heap.size dc (by rfl) (by rfl) 29 _ (heap_alloc_new w5 _) hszd ?hs halld ?_; (case hs => exact hd32.symm); rw [World.setRow_alloc_new]
           have HD6 : Hid ((w5.alloc (.cells dc 29)).heap[w5.heap.size]? = some (.cells dc 29 (0, 0))) := heap_alloc_new w5 _
           have HB6 : Hid ((w5.alloc (.cells dc 29)).heap[w.heap.size]? = some (.cells bx 41 (0, 0))) := (Below.heap_alloc _ _ _ (lt_of_block HB5.out)).trans HB5.out
           have HK6 : Hid (Kept [] w (w5.alloc (.cells dc 29))) := HK5.out.alloc _
           generalize w5.alloc (.cells dc 29) = w6 at *
           have hbt : BytesAt w6 (.slice (some ⟨w5.heap.size, 0, none⟩) 32 32) K := by
             have h := HD6.out
             rw [HDC.out] at h
             have := row_bytes_tag h
             rwa [HK32.out] at this
           have HC6 := Copy0_any _ K w6 hbt (by omega)
           clear hbt)
        | (go_at_call 16; refine HC6.mono ?_; rintro e w7 ⟨rfl, hr7, hk7⟩
           have HR7 : Hid (w7.heap[w6.heap.size]? = some (.cells (K.map (Value.int .u8)).toArray 5 (0, 0))) := hr7
           have HB7 : Hid (w7.heap[w.heap.size]? = some (.cells bx 41 (0, 0))) := hk7.heap HB6.out (by simp)
           have HK7 : Hid (Kept [] w w7) := HK6.out.then hk7
           have hg7 : w.heap.size < w6.heap.size := lt_of_block HB6.out
           clear hr7 hk7 HC6))
      have HC0 : Hid (∀ W, Kept [] w7 W → W.cell? ⟨w.heap.size, 0, none⟩ = some (.slice ao xs.length cap) ∧ W.cell? ⟨w.heap.size, 1, none⟩ = some (.slice ko ks.length kcap)) := fun W hW => HC.out W (hW.heap HB7.out (by simp))
      have HQ1 : Hid (∀ W, Kept [] w7 W → Calls Tryd.prog 14 #[.slice (some ⟨w6.heap.size, 0, none⟩) K.length K.length, .slice ao xs.length cap] W fun e w' => e = .returned (.agg ic) ∧ Kept [] w7 w') := fun W hW =>
        (HKK.out W _ (HK7.out.then hW) (row_bytes' (hW.heap HR7.out (by simp)))).mono fun e w' h => ⟨h.1, hW.then h.2⟩
      have HQ2 : Hid (∀ W, Kept [] w7 W → Calls Tryd.prog 14 #[.slice ko ks.length kcap, .slice ao xs.length cap] W fun e w' => e = .returned (.agg ic) ∧ Kept [] w7 w') := fun W hW =>
        (HKE2.out W (HK7.out.then hW)).mono fun e w' h => ⟨h.1, hW.then h.2⟩
      refine region_quiet (Kept [] w7) (by kernel_rfl) (by kernel_rfl) (Kept.refl [] w7).drew ?_
      refine quiet_move (by rfl) (.tmp 3) rfl (.slice (some ⟨w6.heap.size, 0, none⟩) K.length K.length) rfl ?_
      simp only [Act.put, List.setIfInBounds_toArray, List.set_cons_zero, List.set_cons_succ]
      refine quiet_val (by rfl) (.pointer (some ⟨w.heap.size, 0, none⟩)) (fun W => by go_simp) ?_
      simp only [Act.put, List.setIfInBounds_toArray, List.set_cons_zero, List.set_cons_succ]
      refine valC (by rfl) (.slice ao xs.length cap) (fun W hW => by have c0 := (HC0.out W hW).1; go_simp) ?_
      simp only [Act.put, List.setIfInBounds_toArray, List.set_cons_zero, List.set_cons_succ]
      refine quiet_call (by rfl) 14 #[.slice (some ⟨w6.heap.size, 0, none⟩) K.length K.length, .slice ao xs.length cap] (.agg ic) (fun W => by go_simp) (fun W hW => HQ1.out W hW) ?_
      simp only [Act.put, List.setIfInBounds_toArray, List.set_cons_zero, List.set_cons_succ]
      refine quiet_val (by rfl) (.pointer (some ⟨w.heap.size, 1, none⟩)) (fun W => by go_simp) ?_
      simp only [Act.put, List.setIfInBounds_toArray, List.set_cons_zero, List.set_cons_succ]
      refine valC (by rfl) (.slice ko ks.length kcap) (fun W hW => by have c0 := (HC0.out W hW).2; go_simp) ?_
      simp only [Act.put, List.setIfInBounds_toArray, List.set_cons_zero, List.set_cons_succ]
      refine quiet_val (by rfl) (.pointer (some ⟨w.heap.size, 0, none⟩)) (fun W => by go_simp) ?_
      simp only [Act.put, List.setIfInBounds_toArray, List.set_cons_zero, List.set_cons_succ]
      refine valC (by rfl) (.slice ao xs.length cap) (fun W hW => by have c0 := (HC0.out W hW).1; go_simp) ?_
      simp only [Act.put, List.setIfInBounds_toArray, List.set_cons_zero, List.set_cons_succ]
      refine quiet_call (by rfl) 14 #[.slice ko ks.length kcap, .slice ao xs.length cap] (.agg ic) (fun W => by go_simp) (fun W hW => HQ2.out W hW) ?_
      simp only [Act.put, List.setIfInBounds_toArray, List.set_cons_zero, List.set_cons_succ]
      refine quiet_neq (by rfl) (.tmp 25) (.tmp 30) _ rfl _ _ rfl rfl true heq ?_
      simp only [Act.put, List.setIfInBounds_toArray, List.set_cons_zero, List.set_cons_succ]
      refine wpQuiet_nil fun w8 hk8 => ?_
      have HK8 : Hid (Kept [] w w8) := HK7.out.then hk8
      have HB8 : Hid (w8.heap[w.heap.size]? = some (.cells bx 41 (0, 0))) := hk8.heap HB7.out (by simp)
      have HR8 : Hid (w8.heap[w6.heap.size]? = some (.cells (K.map (Value.int .u8)).toArray 5 (0, 0))) := hk8.heap HR7.out (by simp)
      clear hk8
      go_wp2
      go_meet
      exact ⟨w6.heap.size, rfl, hg7, HR8, HB8, HK8⟩
    · have hlf : decide (64 < (ks.length : Int)) = false := decide_eq_false (by omega)
      go_wp2
      go_meet
      have e := HKE.out
      rw [shortK_short ks (by omega)] at e
      subst e
      exact ⟨g, rfl, hg1, HR2, HB2, HK2⟩
  case rest =>
  obtain ⟨g', rfl, hg', HR3, HB3, HK3⟩ := hcut
  rename World => wq
  go_upto_region 9 with fail
  go_cut [48] from 32 to 47 (fun s48 wx => s48 = .bool false ∧ Hid (Kept [] wq wx))
  case first =>
    by_cases h64 : K.length < 64
    · have HS2 : Hid (Kept [] wq wq.drew ∧ wq.drew.cell? ⟨w.heap.size, 0, none⟩ = some (.slice ao xs.length cap)) := ⟨(Kept.refl [] wq).drew, (HC.out wq.drew HB3.out).1⟩
      have HBT : Hid (∀ W, Kept [] wq W → BytesAt W (.slice (some ⟨g', 0, none⟩) K.length K.length) K) := fun W hW => row_bytes' (hW.heap HR3.out (by simp))
      have HD0 : Hid (∀ W, Kept [] wq W → W.cell? ⟨w.heap.size, 0, none⟩ = some (.slice ao xs.length cap)) := fun W hW => (HC.out W (hW.heap HB3.out (by simp))).1
      have hl64 : ((K.length : Int) < 64) := by omega
      obtain ⟨ic, hic⟩ : ∃ ic, ic = idC (keyL K xs) := ⟨_, rfl⟩
      have heq : ∀ W, (Op.equalIn 10000 29 (.agg ic) (.agg ic)).run Tryd.prog W = .ok true W := fun W => by rw [hic, idEq _ _ W (keyL_len _ _) (keyL_len _ _), decide_eq_true rfl]
      have HKZ : Hid (∀ W v, Kept [] wq W → BytesAt W v (K ++ [0]) → Calls Tryd.prog 14 #[v, .slice ao xs.length cap] W fun e w' => e = .returned (.agg ic) ∧ Kept [] W w') := fun W v hW hv => by
        rw [hic, ← keyL_zero K xs h64]
        exact HKX.out W v _ (HK3.out.then hW) hv (by
          intro u hu
          rcases List.mem_append.1 hu with h | h
          · exact hKo u h
          · simp at h; omega) (by simp; omega)
      have HKK : Hid (∀ W v, Kept [] wq W → BytesAt W v K → Calls Tryd.prog 14 #[v, .slice ao xs.length cap] W fun e w' => e = .returned (.agg ic) ∧ Kept [] W w') := fun W v hW hv => by
        rw [hic]
        exact HKX.out W v _ (HK3.out.then hW) hv hKo (by omega)
      clear hic
      have HKA : Hid (Kept [] wq (wq.alloc (.cells #[.int .u8 0] 5)).drew) := ((Kept.refl [] wq).alloc _).drew
      have hsz2 : (wq.alloc (.cells #[.int .u8 0] 5)).drew.heap.size = wq.heap.size + 1 := by
        show (wq.alloc (.cells #[.int .u8 0] 5)).heap.size = _
        simp
      have hls : K.length + ([0] : List Int).length ≤ 140737488355328 := by simp; omega
      have hkm : K.length ≤ 140737488355328 := by omega
      go_region_held_law (fun W => Kept [] wq W ∧ W.cell? ⟨w.heap.size, 0, none⟩ = some (.slice ao xs.length cap)) (first | exact HS6.out | exact HS5.out | exact HS4.out | exact ⟨Kept.alloc HS3.out.1 _, HD0.out _ (Kept.alloc HS3.out.1 _)⟩ | exact HS3.out | exact ⟨HKA.out, HD0.out _ HKA.out⟩ | exact HS2.out) (first
        | (go_simp; go_at_call 16; first
           | (with_reducible refine (Copy0_any _ K wq.drew (HBT.out _ HS2.out.1) hkm).mono ?_; rintro e w3 ⟨rfl, hr3, hk3⟩
              have HS3 : Hid (Kept [] wq w3 ∧ w3.cell? ⟨w.heap.size, 0, none⟩ = some (.slice ao xs.length cap)) := ⟨HS2.out.1.then hk3, HD0.out _ (HS2.out.1.then hk3)⟩
              have HO3 : Hid (OwnB (w3.alloc (.cells #[.int .u8 0] 5)) wq.heap.size (.slice (some ⟨wq.drew.heap.size, 0, none⟩) K.length K.length) K) := own_row (((Kept.refl [] w3).alloc _).heap hr3 (by simp)) hkm
              have HZ3 : Hid (BytesAt (w3.alloc (.cells #[.int .u8 0] 5)) (.slice (some ⟨w3.heap.size, 0, none⟩) 1 1) [0]) := row_bytes' (ys := [0]) (heap_alloc_new w3 _)
              have HL3 : Hid (wq.heap.size ≤ (w3.alloc (.cells #[.int .u8 0] 5)).heap.size) := Nat.le_trans hk3.size (by simp)
              have HK3a : Hid (Kept [] wq (w3.alloc (.cells #[.int .u8 0] 5))) := HS3.out.1.alloc _
              clear hr3 hk3)
           | (with_reducible refine (Copy0_any _ K (wq.alloc (.cells #[.int .u8 0] 5)).drew (HBT.out _ HKA.out) hkm).mono ?_; rintro e w3 ⟨rfl, hr3, hk3⟩
              rw [hsz2] at hr3 ⊢
              have HS3 : Hid (Kept [] wq w3 ∧ w3.cell? ⟨w.heap.size, 0, none⟩ = some (.slice ao xs.length cap)) := ⟨HKA.out.then hk3, HD0.out _ (HKA.out.then hk3)⟩
              have HO3 : Hid (OwnB w3 (wq.heap.size + 1) (.slice (some ⟨wq.heap.size + 1, 0, none⟩) K.length K.length) K) := own_row hr3 hkm
              have HZ3 : Hid (BytesAt w3 (.slice (some ⟨wq.heap.size, 0, none⟩) 1 1) [0]) := row_bytes' (ys := [0]) (hk3.heap (heap_alloc_new wq _) (by simp))
              have HL3 : Hid (wq.heap.size + 1 ≤ w3.heap.size) := Nat.le_of_lt (lt_of_block hr3)
              have HK3a : Hid (Kept [] wq w3) := HS3.out.1
              clear hr3 hk3))
        | (go_simp; go_at_call 14; first
           | (with_reducible refine (HKZ.out w4 v' HK4.out HB4.out).mono ?_; rintro e w5 ⟨rfl, hk5⟩
              have HK5 : Hid (Kept [] wq w5) := HK4.out.then hk5
              have HS5 : Hid (Kept [] wq w5 ∧ w5.cell? ⟨w.heap.size, 0, none⟩ = some (.slice ao xs.length cap)) := ⟨HK5.out, HD0.out _ HK5.out⟩
              clear hk5)
           | (with_reducible refine (HKK.out w5 _ HK5.out (HBT.out _ HK5.out)).mono ?_; rintro e w6 ⟨rfl, hk6⟩
              have HK6 : Hid (Kept [] wq w6) := HK5.out.then hk6
              have HS6 : Hid (Kept [] wq w6 ∧ w6.cell? ⟨w.heap.size, 0, none⟩ = some (.slice ao xs.length cap)) := ⟨HK6.out, HD0.out _ HK6.out⟩
              clear hk6))
        | (have hO3 := HO3.out; clear hO3; refine step_append_wanted (by rfl) (.tmp 37) (.tmp 38) rfl rfl HO3.out rfl HZ3.out hls HL3.out ?_; intro v' w4 ha4
           have HK4 : Hid (Kept [] wq w4) := ha4.keep wq [] HK3a.out (fun k hk => Or.inr (by cases hk; first | exact Nat.le_refl _ | exact Nat.le_succ _))
           have HS4 : Hid (Kept [] wq w4 ∧ w4.cell? ⟨w.heap.size, 0, none⟩ = some (.slice ao xs.length cap)) := ⟨HK4.out, HD0.out _ HK4.out⟩
           have HB4 : Hid (BytesAt w4 v' (K ++ [0])) := ha4.own.bytes
           clear ha4))
      all_goals (go_wp2_with fail; go_meet; exact ⟨rfl, HK6⟩)
    · have hl64 : decide ((K.length : Int) < 64) = false := decide_eq_false (by omega)
      go_quiet (fail)
      go_wp2_with fail
      go_meet
      exact ⟨rfl, (Kept.refl [] wq).drewN _⟩
  case rest =>
  obtain ⟨rfl, HK4q⟩ := hcut
  rename World => w4
  have HK4 : Hid (Kept [] w w4) := HK3.out.then HK4q.out
  have HB4 : Hid (w4.heap[w.heap.size]? = some (.cells bx 41 (0, 0))) := HK4q.out.heap HB3.out (by simp)
  have HR4 : Hid (w4.heap[g']? = some (.cells (K.map (Value.int .u8)).toArray 5 (0, 0))) := HK4q.out.heap HR3.out (by simp)
  clear HK3 HB3 HR3 HK4q
  go_wp2
  obtain ⟨im, him⟩ : ∃ im, im = maskL (blockL ks) 54 := ⟨_, rfl⟩
  obtain ⟨om, hom⟩ : ∃ om, om = maskL (blockL ks) 92 := ⟨_, rfl⟩
  have HBK : Hid (∀ k, k < 64 → (blockL ks)[k]?.getD 0 = if k < K.length then K[k]?.getD 0 else 0) := fun k hk => by rw [HKE.out]; exact blockL_at ks k hk
  have HIM : Hid (∀ k, k < 64 → im.take (k + 1) = im.take k ++ [bits .xor .u8 ((blockL ks)[k]?.getD 0) 54]) := fun k hk => by rw [him]; exact maskL_take _ _ k (by rw [blockL_len]; exact hk)
  have HOM : Hid (∀ k, k < 64 → om.take (k + 1) = om.take k ++ [bits .xor .u8 ((blockL ks)[k]?.getD 0) 92]) := fun k hk => by rw [hom]; exact maskL_take _ _ k (by rw [blockL_len]; exact hk)
  have HIL : Hid (im.length = 64) := by show _ = _; rw [him, maskL_len, blockL_len]
  have HOL : Hid (om.length = 64) := by show _ = _; rw [hom, maskL_len, blockL_len]
  have HIE : Hid (im = maskL (blockL ks) 54) := him
  have HOE : Hid (om = maskL (blockL ks) 92) := hom
  have HLK : Hid (∀ (l : List Int) k, (l.take k).length ≤ k) := fun l k => by rw [List.length_take]; omega
  clear him hom
  go_loopw [5, 6, 7] (fun s5 s6 s7 wr => ∃ k : Nat, k ≤ 64 ∧ s7 = .int .i64 k ∧ Hid (OwnB wr w4.heap.size s5 (im.take k)) ∧ Hid (OwnB wr w4.heap.size s6 (om.take k)) ∧ Hid (∀ x, s5.ownBlock = some x → s6.ownBlock ≠ some x) ∧ Hid (Kept [] w4 wr)) (fun _ _ s7 _ => 64 - (intOf s7).toNat)
  case atStart => exact ⟨0, Nat.zero_le _, rfl, World.ownsRow_nil _ _ _ _, World.ownsRow_nil _ _ _ _, fun x h => by simp [Value.ownBlock] at h, Kept.refl _ _⟩
  case round =>
    obtain ⟨k, hk, rfl, HO5, HO6, HD, HKW⟩ := hrel
    by_cases hlt : k < 64
    · obtain ⟨z, hz⟩ : ∃ z, z = (blockL ks)[k]?.getD 0 := ⟨_, rfl⟩
      have hI := HIM.out k hlt
      have hO := HOM.out k hlt
      have hzb := HBK.out k hlt
      rw [← hz] at hI hO hzb
      have HI1 : Hid (im.take (k + 1) = im.take k ++ [bits .xor .u8 z 54]) := hI
      have HO1 : Hid (om.take (k + 1) = om.take k ++ [bits .xor .u8 z 92]) := hO
      have ho5 : OwnB (wr.alloc (.cells #[.int .u8 (bits .xor .u8 z 54)] 5)) w4.heap.size u5 (im.take k) := HO5.out.kept ((Kept.refl [] wr).alloc _) (by simp)
      have hz5 : BytesAt (wr.alloc (.cells #[.int .u8 (bits .xor .u8 z 54)] 5)) (.slice (some ⟨wr.heap.size, 0, none⟩) 1 1) [bits .xor .u8 z 54] := row_bytes' (ys := [bits .xor .u8 z 54]) (heap_alloc_new wr _)
      have hl5 : (im.take k).length + [bits .xor .u8 z 54].length ≤ 140737488355328 := by have := HLK.out im k; simp only [List.length_cons, List.length_nil]; omega
      have hl6 : (om.take k).length + [bits .xor .u8 z 92].length ≤ 140737488355328 := by have := HLK.out om k; simp only [List.length_cons, List.length_nil]; omega
      have hb5 : w4.heap.size ≤ (wr.alloc (.cells #[.int .u8 (bits .xor .u8 z 54)] 5)).heap.size := Nat.le_trans HKW.out.size (by simp)
      have HF5 : Hid _ := ho5
      have HZ5 : Hid _ := hz5
      have HB5 : Hid _ := hb5
      have cK : k < K.length → wr.cell? ⟨g', k, none⟩ = some (.int .u8 z) := fun h => by
        rw [if_pos h] at hzb
        rw [cell_of_row _ _ _ _ _ _ (HKW.out.heap HR4.out (by simp)), hzb, ← Array.getElem?_toList]
        simp [List.getElem?_eq_getElem h]
      have z0 : ¬ k < K.length → z = 0 := fun h => by rw [if_neg h] at hzb; exact hzb
      clear hI hO hzb hz ho5 hz5 hb5
      by_cases hkK : k < K.length
      · have ck := cK hkK
        clear cK z0
        go_wp2_with (first
          | (at_builtin; refine wpList_append_bytes rfl (.tmp 61) (.tmp 64) rfl rfl HF5.out rfl HZ5.out hl5 HB5.out ?_; intro v5 w6 ha6
             obtain ⟨p1, p2, p3⟩ := pair_step HO5.out HO6.out HD.out HKW.out ha6
             have HV5 : Hid (OwnB w6 w4.heap.size v5 (im.take (k + 1))) := by rw [HI1.out]; exact ha6.own
             have HP1 : Hid (OwnB w6 w4.heap.size u6 (om.take k)) := p1
             have HP2 : Hid (∀ x, u6.ownBlock = some x → v5.ownBlock ≠ some x) := fun x hx hy => p2 x hy hx
             have HP3 : Hid (Kept [] w4 w6) := p3
             have HF6 : Hid (OwnB (w6.alloc (.cells #[.int .u8 (bits .xor .u8 z 92)] 5)) w4.heap.size u6 (om.take k)) := HP1.out.kept ((Kept.refl [] w6).alloc _) (by simp)
             have HZ6 : Hid (BytesAt (w6.alloc (.cells #[.int .u8 (bits .xor .u8 z 92)] 5)) (.slice (some ⟨w6.heap.size, 0, none⟩) 1 1) [bits .xor .u8 z 92]) := row_bytes' (ys := [bits .xor .u8 z 92]) (heap_alloc_new w6 _)
             have HB6 : Hid (w4.heap.size ≤ (w6.alloc (.cells #[.int .u8 (bits .xor .u8 z 92)] 5)).heap.size) := Nat.le_trans HP3.out.size (by simp)
             clear p1 p2 p3 ha6)
          | (at_builtin; refine wpList_append_bytes rfl (.tmp 66) (.tmp 69) rfl rfl HF6.out rfl HZ6.out hl6 HB6.out ?_; intro v6 w7 ha7
             obtain ⟨q1, q2, q3⟩ := pair_step HP1.out HV5.out HP2.out HP3.out ha7
             have HQ1 : Hid (OwnB w7 w4.heap.size v5 (im.take (k + 1))) := q1
             have HQ2 : Hid (∀ x, v5.ownBlock = some x → v6.ownBlock ≠ some x) := fun x hx hy => q2 x hy hx
             have HQ3 : Hid (Kept [] w4 w7) := q3
             have HQ4 : Hid (OwnB w7 w4.heap.size v6 (om.take (k + 1))) := by rw [HO1.out]; exact ha7.own
             clear q1 q2 q3 ha7))
        go_roundw
        case rel => exact ⟨k + 1, by omega, by go_num, HQ1, HQ4, HQ2, HQ3⟩
        case measure => simp [intOf]; omega
      · obtain rfl := z0 hkK
        clear cK z0
        go_wp2_with (first
          | (at_builtin; refine wpList_append_bytes rfl (.tmp 61) (.tmp 64) rfl rfl HF5.out rfl HZ5.out hl5 HB5.out ?_; intro v5 w6 ha6
             obtain ⟨p1, p2, p3⟩ := pair_step HO5.out HO6.out HD.out HKW.out ha6
             have HV5 : Hid (OwnB w6 w4.heap.size v5 (im.take (k + 1))) := by rw [HI1.out]; exact ha6.own
             have HP1 : Hid (OwnB w6 w4.heap.size u6 (om.take k)) := p1
             have HP2 : Hid (∀ x, u6.ownBlock = some x → v5.ownBlock ≠ some x) := fun x hx hy => p2 x hy hx
             have HP3 : Hid (Kept [] w4 w6) := p3
             have HF6 : Hid (OwnB (w6.alloc (.cells #[.int .u8 (bits .xor .u8 0 92)] 5)) w4.heap.size u6 (om.take k)) := HP1.out.kept ((Kept.refl [] w6).alloc _) (by simp)
             have HZ6 : Hid (BytesAt (w6.alloc (.cells #[.int .u8 (bits .xor .u8 0 92)] 5)) (.slice (some ⟨w6.heap.size, 0, none⟩) 1 1) [bits .xor .u8 0 92]) := row_bytes' (ys := [bits .xor .u8 0 92]) (heap_alloc_new w6 _)
             have HB6 : Hid (w4.heap.size ≤ (w6.alloc (.cells #[.int .u8 (bits .xor .u8 0 92)] 5)).heap.size) := Nat.le_trans HP3.out.size (by simp)
             clear p1 p2 p3 ha6)
          | (at_builtin; refine wpList_append_bytes rfl (.tmp 66) (.tmp 69) rfl rfl HF6.out rfl HZ6.out hl6 HB6.out ?_; intro v6 w7 ha7
             obtain ⟨q1, q2, q3⟩ := pair_step HP1.out HV5.out HP2.out HP3.out ha7
             have HQ1 : Hid (OwnB w7 w4.heap.size v5 (im.take (k + 1))) := q1
             have HQ2 : Hid (∀ x, v5.ownBlock = some x → v6.ownBlock ≠ some x) := fun x hx hy => q2 x hy hx
             have HQ3 : Hid (Kept [] w4 w7) := q3
             have HQ4 : Hid (OwnB w7 w4.heap.size v6 (om.take (k + 1))) := by rw [HO1.out]; exact ha7.own
             clear q1 q2 q3 ha7))
        go_roundw
        case rel => exact ⟨k + 1, by omega, by go_num, HQ1, HQ4, HQ2, HQ3⟩
        case measure => simp [intOf]; omega
    · obtain rfl : k = 64 := by omega
      rw [show ((64 : Nat) : Int) = 64 from rfl]
      have h5 : OwnB wr w4.heap.size u5 im := by
        have h := HO5.out
        rwa [List.take_of_length_le (by rw [HIL.out]; exact Nat.le_refl _)] at h
      have h6 : OwnB wr w4.heap.size u6 om := by
        have h := HO6.out
        rwa [List.take_of_length_le (by rw [HOL.out]; exact Nat.le_refl _)] at h
      have HV5 : Hid (OwnB wr w4.heap.size u5 im) := h5
      have HV6 : Hid (OwnB wr w4.heap.size u6 om) := h6
      clear h5 h6 HO5 HO6
      obtain ⟨q6, qc6, rfl, hq6, hq7⟩ := HV6.out.form (by
        intro he
        have := HOL.out
        rw [he] at this
        simp at this)
      have HQB : Hid (w4.heap.size ≤ q6) := hq6
      clear hq6 hq7
      have HKR : Hid (Kept [] w wr) := HK4.out.then HKW.out
      have HBR : Hid (wr.heap[w.heap.size]? = some (.cells bx 41 (0, 0))) := HKW.out.heap HB4.out (by simp)
      obtain ⟨c0, c1⟩ := HC.out wr HBR.out
      have hl5 : im.length + xs.length ≤ 140737488355328 := by have := HIL.out; omega
      have hb5 : w4.heap.size ≤ wr.heap.size := HKW.out.size
      have HXR : Hid (BytesAt wr (.slice ao xs.length cap) xs) := HX.out wr HKR.out
      obtain ⟨jn, hjn⟩ : ∃ jn, jn = digL (im ++ xs) := ⟨_, rfl⟩
      have hjl : jn.length = 32 := by rw [hjn]; exact digL_len _
      obtain ⟨jc, hjc⟩ : ∃ jc, jc = idC jn := ⟨_, rfl⟩
      have hszj : (Tryd.prog.info? 29).map (·.size) = some jc.size := by rw [hjc, idC_size hjl]; exact Tryd.infoID
      have hallj : jc.all (·.oneCell') = true := by rw [hjc]; exact all_oneCell_toArray (map_oneCell _)
      have hj32 : jc.size = 32 := by rw [hjc, idC_size hjl]
      have HS1 : Hid (∀ W v, Kept [] w W → BytesAt W v (im ++ xs) → Calls Tryd.prog 12 #[v] W fun e w' => e = .returned (.agg jc) ∧ Kept [] W w') := by
        rw [hjc, hjn]
        exact fun W v hW hv => Sum_any W v _ (HV.out W hW) hv (by
          intro u hu
          rcases List.mem_append.1 hu with h | h
          · exact maskL_octs _ _ u (HIE.out ▸ h)
          · exact hox u h) (by rw [List.length_append, HIL.out]; omega)
      have HJ : Hid (jc = idC jn) := hjc
      have HJN : Hid (jn = digL (im ++ xs)) := hjn
      have HJL : Hid (jn.length = 32) := hjl
      clear hjc hjn hjl
      go_wp2_with (first
        | (at_builtin; refine wpList_append_bytes rfl (.tmp 71) (.tmp 73) rfl rfl HV5.out rfl HXR.out hl5 hb5 ?_; intro v7 w7 ha7
           have HK7 : Hid (Kept [] w w7) := ha7.keep w [] HKR.out (fun k hq => Or.inr (Nat.le_trans HK4.out.size (World.ownsRow.lt HV5.out k hq).1))
           have k7 : Kept u5.ownBlock.toList wr w7 := ha7.keep wr u5.ownBlock.toList (Kept.refl _ _) (fun k hq => Or.inl (mem_toList_some hq))
           have HP7 : Hid (OwnB w7 w4.heap.size (.slice (some ⟨q6, 0, none⟩) om.length qc6) om) := HV6.out.kept k7 (fun x hx hm => HD.out x (of_mem_toList hm) hx)
           have HB7 : Hid (w7.heap[w.heap.size]? = some (.cells bx 41 (0, 0))) := (ha7.keep w4 [] HKW.out (fun k hq => Or.inr (World.ownsRow.lt HV5.out k hq).1)).heap HB4.out (by simp)
           have HS7 := HS1.out w7 v7 HK7.out ha7.own.bytes
           clear ha7 k7)
        | (go_at_call 12; refine HS7.mono ?_; rintro e w8 ⟨rfl, hk8⟩
           have HK8 : Hid (Kept [] w w8) := HK7.out.then hk8
           have HP8 : Hid (OwnB w8 w4.heap.size (.slice (some ⟨q6, 0, none⟩) om.length qc6) om) := HP7.out.kept hk8 (by simp)
           have HB8 : Hid (w8.heap[w.heap.size]? = some (.cells bx 41 (0, 0))) := hk8.heap HB7.out (by simp)
           clear hk8 HS7)
        | (refine wpList_store_row (by rfl) 29 (.tmp 9) (.tmp 75) (by rfl) w8.heap.size jc (by rfl) (by rfl) 29 _ (heap_alloc_new w8 _) hszj ?hs hallj ?_; (case hs => exact hj32.symm); rw [World.setRow_alloc_new]
           have HD9 : Hid ((w8.alloc (.cells jc 29)).heap[w8.heap.size]? = some (.cells jc 29 (0, 0))) := heap_alloc_new w8 _
           have HP9 : Hid (OwnB (w8.alloc (.cells jc 29)) w4.heap.size (.slice (some ⟨q6, 0, none⟩) om.length qc6) om) := HP8.out.kept ((Kept.refl [] w8).alloc _) (by simp)
           have HB9 : Hid ((w8.alloc (.cells jc 29)).heap[w.heap.size]? = some (.cells bx 41 (0, 0))) := (Below.heap_alloc _ _ _ (lt_of_block HB8.out)).trans HB8.out
           have HK9 : Hid (Kept [] w (w8.alloc (.cells jc 29))) := HK8.out.alloc _
           generalize w8.alloc (.cells jc 29) = w9 at *))
      obtain ⟨ic, hic⟩ : ∃ ic, ic = idC (keyL ks xs) := ⟨_, rfl⟩
      have heq : ∀ W, (Op.equalIn 10000 29 (.agg ic) (.agg ic)).run Tryd.prog W = .ok true W := fun W => by rw [hic, idEq _ _ W (keyL_len _ _) (keyL_len _ _), decide_eq_true rfl]
      have hoo : Octs om := by rw [HOE.out]; exact maskL_octs _ _
      have hjo : Octs jn := by rw [HJN.out]; exact digL_octs _
      have HSE : Hid (∀ W v, Kept [] w W → BytesAt W v (om ++ jn) → Calls Tryd.prog 12 #[v] W fun e w' => e = .returned (.agg ic) ∧ Kept [] W w') := by
        have e : keyL ks xs = digL (om ++ jn) := by
          unfold keyL
          rw [HJN.out, HIE.out, HOE.out]
        rw [hic, e]
        exact fun W v hW hv => Sum_any W v _ (HV.out W hW) hv (by
          intro u hu
          rcases List.mem_append.1 hu with h | h
          · exact hoo u h
          · exact hjo u h) (by rw [List.length_append, HOL.out, HJL.out]; omega)
      have HKE2 : Hid (∀ W, Kept [] w W → Calls Tryd.prog 14 #[.slice ko ks.length kcap, .slice ao xs.length cap] W fun e w' => e = .returned (.agg ic) ∧ Kept [] W w') := by
        rw [hic]
        exact fun W hW => HKX.out W _ ks hW (HK.out W hW) hok (by omega)
      clear hic
      have hs32 := slice_all32
      have HKd : Hid (Kept [] w w9.drew) := HK9.out.drew
      have HPd : Hid (OwnB w9.drew w4.heap.size (.slice (some ⟨q6, 0, none⟩) om.length qc6) om) := HP9.out.kept (Kept.refl [] w9).drew (by simp)
      have HBd : Hid (w9.drew.heap[w.heap.size]? = some (.cells bx 41 (0, 0))) := HB9.out
      have HJd : Hid (BytesAt w9.drew (.slice (some ⟨w8.heap.size, 0, none⟩) 32 32) jn) := by
        have h := HD9.out
        rw [HJ.out] at h
        have := row_bytes_tag (w := w9.drew) h
        rwa [HJL.out] at this
      have HSd : Hid (Kept [] w w9.drew ∧ w9.drew.cell? ⟨w.heap.size, 0, none⟩ = some (.slice ao xs.length cap) ∧ w9.drew.cell? ⟨w.heap.size, 1, none⟩ = some (.slice ko ks.length kcap)) := ⟨HKd.out, HC.out _ HBd.out⟩
      have hl10 : om.length + jn.length ≤ 140737488355328 := by have := HOL.out; have := HJL.out; omega
      have hb10 : w4.heap.size ≤ w9.drew.heap.size := by
        have h1 := lt_of_block HD9.out
        have h2 := HK4.out.size
        have h3 : w4.heap.size ≤ w8.heap.size := by
          by_cases he : om = []
          · have := HOL.out; rw [he] at this; simp at this
          · obtain ⟨q, qc, e, h4, h5⟩ := HP8.out.form he
            omega
        show w4.heap.size ≤ w9.heap.size
        omega
      have hwb : w.heap.size < w4.heap.size := lt_of_block HB4.out
      have HQ6 : Hid (w.heap.size ∉ [q6]) := by
        have h1 := HQB.out
        have h2 : w.heap.size ≠ q6 := by omega
        exact fun hm => h2 (by simpa using hm)
      have HQK : Hid (∀ k, (Value.slice (some ⟨q6, 0, none⟩) om.length qc6).ownBlock = some k → k ∈ [q6] ∨ w9.drew.heap.size ≤ k) := fun k hq => Or.inl (by
        have h : q6 = k := by simpa [Value.ownBlock] using hq
        simp [h])
      have HQW : Hid (∀ k, (Value.slice (some ⟨q6, 0, none⟩) om.length qc6).ownBlock = some k → k ∈ [] ∨ w.heap.size ≤ k) := fun k hq => Or.inr (Nat.le_trans HK4.out.size (World.ownsRow.lt HPd.out k hq).1)
      go_region_held_law (fun W => Kept [] w W ∧ W.cell? ⟨w.heap.size, 0, none⟩ = some (.slice ao xs.length cap) ∧ W.cell? ⟨w.heap.size, 1, none⟩ = some (.slice ko ks.length kcap)) (first | exact HS12.out | exact HS11.out | exact HS10.out | exact HSd.out) (first
        | (go_simp; go_at_call 12; with_reducible refine (HSE.out w10 v10 HK10.out HV10.out).mono ?_; rintro e w11 ⟨rfl, hk11⟩
           have HK11 : Hid (Kept [] w w11) := HK10.out.then hk11
           have HS11 : Hid (Kept [] w w11 ∧ w11.cell? ⟨w.heap.size, 0, none⟩ = some (.slice ao xs.length cap) ∧ w11.cell? ⟨w.heap.size, 1, none⟩ = some (.slice ko ks.length kcap)) := ⟨HK11.out, HC.out _ (hk11.heap HB10.out (by simp))⟩
           have HB11 : Hid (w11.heap[w.heap.size]? = some (.cells bx 41 (0, 0))) := hk11.heap HB10.out (by simp)
           clear hk11)
        | (go_simp; go_at_call 14; with_reducible refine (HKE2.out w11 HK11.out).mono ?_; rintro e w12 ⟨rfl, hk12⟩
           have HK12 : Hid (Kept [] w w12) := HK11.out.then hk12
           have HS12 : Hid (Kept [] w w12 ∧ w12.cell? ⟨w.heap.size, 0, none⟩ = some (.slice ao xs.length cap) ∧ w12.cell? ⟨w.heap.size, 1, none⟩ = some (.slice ko ks.length kcap)) := ⟨HK12.out, HC.out _ (hk12.heap HB11.out (by simp))⟩
           clear hk12)
        | (refine step_append_wanted (by rfl) (.tmp 76) (.tmp 77) rfl rfl HPd.out rfl HJd.out hl10 hb10 ?_; intro v10 w10 ha10
           have HK10 : Hid (Kept [] w w10) := ha10.keep w [] HKd.out HQW.out
           have HB10 : Hid (w10.heap[w.heap.size]? = some (.cells bx 41 (0, 0))) := (ha10.keep w9.drew [q6] (Kept.refl _ _) HQK.out).heap HBd.out HQ6.out
           have HS10 : Hid (Kept [] w w10 ∧ w10.cell? ⟨w.heap.size, 0, none⟩ = some (.slice ao xs.length cap) ∧ w10.cell? ⟨w.heap.size, 1, none⟩ = some (.slice ko ks.length kcap)) := ⟨HK10.out, HC.out _ HB10.out⟩
           have HV10 : Hid (BytesAt w10 v10 (om ++ jn)) := ha10.own.bytes
           clear ha10))
      all_goals (go_wp2; go_ret; exact ⟨rfl, HK12.out⟩)
end Go.Proofs.YtbhhkonhoknifaaDoor
