/-
  WALK: satchellaw2.DigestExact.
-/
import Derived.Test.YtdjfcackiclepaaDoorDEx0
import Derived.Deep.RegionHeldLaw
namespace Go.Proofs.YtdjfcackiclepaaDoor
open Go.RowKit

set_option maxRecDepth 100000 in
set_option maxHeartbeats 8000000 in
theorem digestExact_any (w : World) (hV : Vars w) (hR : VarsR w) (ao : Option Addr) (c : Nat) (xs : List Int) (hb : BytesAt w (.slice ao xs.length c) xs) (hox : Octs xs) (hn : xs.length ≤ 10000000)
    (ko : Option Addr) (kc : Nat) (ks : List Int) (hk : BytesAt w (.slice ko ks.length kc) ks) (hok : Octs ks) (hnk : ks.length ≤ 10000000) (t3 : Value) :
    Calls Tryd.prog 4 #[.agg #[.slice ao xs.length c, .slice ko ks.length kc, t3]] w fun e w' => e = .returned (.bool true) ∧ Kept [] w w' := by
  obtain ⟨bx, hbx⟩ : ∃ bx : Array Value, bx = #[.slice ao xs.length c, .slice ko ks.length kc, t3] := ⟨_, rfl⟩
  have HVW : Hid (∀ W, Kept [] w W → Vars W) := fun W hW => hV.kept hW (by simp) (by simp)
  have HRW : Hid (∀ W, Kept [] w W → VarsR W) := fun W hW => hR.kept hW (by simp) (by simp)
  have HX : Hid (∀ W, Kept [] w W → BytesAt W (.slice ao xs.length c) xs) := fun W hW => hb.kept' hW (by simp)
  have HKK : Hid (∀ W, Kept [] w W → BytesAt W (.slice ko ks.length kc) ks) := fun W hW => hk.kept' hW (by simp)
  have HOX : Hid (Octs xs) := hox
  have HOK : Hid (Octs ks) := hok
  obtain ⟨wb, hwb⟩ : ∃ wb, wb = w.alloc (.cells bx 35) := ⟨_, rfl⟩
  have HWB : Hid (wb = w.alloc (.cells bx 35)) := hwb
  have HBX : Hid (wb.heap[w.heap.size]? = some (.cells bx 35 (0, 0))) := by rw [hwb]; exact heap_alloc_new w _
  have HKB : Hid (Kept [] w wb) := by rw [hwb]; exact (Kept.refl [] w).alloc _
  have HC : Hid (∀ W : World, W.heap[w.heap.size]? = some (.cells bx 35 (0, 0)) → W.cell? ⟨w.heap.size, 0, none⟩ = some (.slice ao xs.length c) ∧ W.cell? ⟨w.heap.size, 1, none⟩ = some (.slice ko ks.length kc)) := fun W hW => by
    rw [hbx] at hW
    exact ⟨by rw [cell_of_row _ _ _ _ _ _ hW]; rfl, by rw [cell_of_row _ _ _ _ _ _ hW]; rfl⟩
  have HBE : Hid (bx = #[.slice ao xs.length c, .slice ko ks.length kc, t3]) := hbx
  clear hV hR hb hk hox hok hbx hwb
  go_enter Tryd.func4, Tryd.ntmps4
  go_wp2
  rw [← HBE.out, ← HWB.out]
  have HSd : Hid (Kept [] w wb.drew ∧ wb.drew.cell? ⟨w.heap.size, 0, none⟩ = some (.slice ao xs.length c) ∧ wb.drew.cell? ⟨w.heap.size, 1, none⟩ = some (.slice ko ks.length kc)) := ⟨HKB.out.drew, HC.out wb.drew HBX.out⟩
  have HL1 := Lend_any _ xs wb.drew (HX.out _ HKB.out.drew) (by omega)
  go_region_held_law (fun W => Kept [] w W ∧ W.cell? ⟨w.heap.size, 0, none⟩ = some (.slice ao xs.length c) ∧ W.cell? ⟨w.heap.size, 1, none⟩ = some (.slice ko ks.length kc)) (first | exact HS3.out | exact HS2.out | exact HSd.out) (first
    | (go_simp; go_at_call 12; (with_reducible refine HL1.mono ?_); rintro e w2 ⟨gd, cd, rfl, hl2, hk2⟩
       have HB2 : Hid (w2.heap[w.heap.size]? = some (.cells bx 35 (0, 0))) := hk2.heap (show wb.drew.heap[w.heap.size]? = _ from HBX.out) (by simp)
       have HK2 : Hid (Kept [] w w2) := HKB.out.drew.then hk2
       have HS2 : Hid (Kept [] w w2 ∧ w2.cell? ⟨w.heap.size, 0, none⟩ = some (.slice ao xs.length c) ∧ w2.cell? ⟨w.heap.size, 1, none⟩ = some (.slice ko ks.length kc)) := ⟨HK2.out, HC.out w2 HB2.out⟩
       have HLd : Hid (Lent w2 wb.heap.size gd cd xs) := hl2
       have HL2 := Lend_any _ ks w2 (HKK.out _ HK2.out) (by omega)
       clear hl2 hk2)
    | (go_simp; go_at_call 12; (with_reducible refine HL2.mono ?_); rintro e w3 ⟨gk, ck, rfl, hl3, hk3⟩
       have HB3 : Hid (w3.heap[w.heap.size]? = some (.cells bx 35 (0, 0))) := hk3.heap HB2.out (by simp)
       have HK3 : Hid (Kept [] w w3) := HK2.out.then hk3
       have HS3 : Hid (Kept [] w w3 ∧ w3.cell? ⟨w.heap.size, 0, none⟩ = some (.slice ao xs.length c) ∧ w3.cell? ⟨w.heap.size, 1, none⟩ = some (.slice ko ks.length kc)) := ⟨HK3.out, HC.out w3 HB3.out⟩
       have HLd3 : Hid (Lent w3 wb.heap.size gd cd xs) := HLd.out.kept hk3 (by simp)
       have HLk3 : Hid (Lent w3 w2.heap.size gk ck ks) := hl3
       have HSz : Hid (wb.heap.size ≤ w2.heap.size ∧ gd < w2.heap.size) := ⟨Nat.le_trans (Nat.le_refl _) (by have := HLd.out.room; omega), HLd.out.room.2.2.2⟩
       clear hl3 hk3))
  have HST : Hid (ExSt w w.heap.size bx wb.heap.size gd cd gk ck xs ks [] w3) := ⟨HK3.out, HB3.out, HLd3.out, OwnB.mono HLk3.out HSz.out.1, by have := HLk3.out.room; have := HSz.out; omega, ⟨Nat.le_refl _, lt_of_block HBX.out⟩, fun p hp => by cases hp⟩
  clear HSd HS2 HS3 HB2 HB3 HK2 HK3 HLd HLd3 HLk3 HSz HL1 HL2
  obtain ⟨ca, hca⟩ : ∃ ca, ca = idC (digL xs) := ⟨_, rfl⟩
  obtain ⟨cm, hcm⟩ : ∃ cm, cm = idC (keyL ks xs) := ⟨_, rfl⟩
  obtain ⟨cb, hcb⟩ : ∃ cb, cb = idC (digL (flL xs)) := ⟨_, rfl⟩
  obtain ⟨cy, hcy⟩ : ∃ cy, cy = idC (keyL ks (flL xs)) := ⟨_, rfl⟩
  obtain ⟨cz, hcz⟩ : ∃ cz, cz = idC (keyL (flL ks) xs) := ⟨_, rfl⟩
  have hfx := flL_len xs
  have hfk := flL_len ks
  have S1 : Hid (∀ ids W, ExSt w w.heap.size bx wb.heap.size gd cd gk ck xs ks ids W → Calls Tryd.prog 9 #[.slice (some ⟨gd, 0, none⟩) xs.length cd] W fun e w' => e = .returned (.agg ca) ∧ ExSt w w.heap.size bx wb.heap.size gd cd gk ck xs ks ids w') := by
    rw [hca]; exact fun ids W h => h.sum HVW.out HOX.out (by omega)
  have K1 : Hid (∀ ids W, ExSt w w.heap.size bx wb.heap.size gd cd gk ck xs ks ids W → Calls Tryd.prog 11 #[.slice (some ⟨gk, 0, none⟩) ks.length ck, .slice (some ⟨gd, 0, none⟩) xs.length cd] W fun e w' => e = .returned (.agg cm) ∧ ExSt w w.heap.size bx wb.heap.size gd cd gk ck xs ks ids w') := by
    rw [hcm]; exact fun ids W h => h.keyed HVW.out HOX.out (by omega) HOK.out (by omega)
  have F1 : Hid (∀ ids W, ExSt w w.heap.size bx wb.heap.size gd cd gk ck xs ks ids W → Calls Tryd.prog 14 #[.slice (some ⟨gd, 0, none⟩) xs.length cd] W fun e w' => e = .returned (.tuple #[]) ∧ ExSt w w.heap.size bx wb.heap.size gd cd gk ck (flL xs) ks ids w') := fun ids W h => h.flipD (by omega)
  have S2 : Hid (∀ ids W, ExSt w w.heap.size bx wb.heap.size gd cd gk ck (flL xs) ks ids W → Calls Tryd.prog 9 #[.slice (some ⟨gd, 0, none⟩) xs.length cd] W fun e w' => e = .returned (.agg cb) ∧ ExSt w w.heap.size bx wb.heap.size gd cd gk ck (flL xs) ks ids w') := by
    rw [hcb]
    intro ids W h
    have h2 := h.sum HVW.out (flL_octs xs) (by omega)
    rw [hfx] at h2
    exact h2
  have K2 : Hid (∀ ids W, ExSt w w.heap.size bx wb.heap.size gd cd gk ck (flL xs) ks ids W → Calls Tryd.prog 11 #[.slice (some ⟨gk, 0, none⟩) ks.length ck, .slice (some ⟨gd, 0, none⟩) xs.length cd] W fun e w' => e = .returned (.agg cy) ∧ ExSt w w.heap.size bx wb.heap.size gd cd gk ck (flL xs) ks ids w') := by
    rw [hcy]
    intro ids W h
    have h2 := h.keyed HVW.out (flL_octs xs) (by omega) HOK.out (by omega)
    rw [hfx] at h2
    exact h2
  have F2 : Hid (∀ ids W, ExSt w w.heap.size bx wb.heap.size gd cd gk ck (flL xs) ks ids W → Calls Tryd.prog 14 #[.slice (some ⟨gd, 0, none⟩) xs.length cd] W fun e w' => e = .returned (.tuple #[]) ∧ ExSt w w.heap.size bx wb.heap.size gd cd gk ck xs ks ids w') := by
    intro ids W h
    have h2 := h.flipD (by omega)
    rw [hfx, flL_twice xs HOX.out] at h2
    exact h2
  have F3 : Hid (∀ ids W, ExSt w w.heap.size bx wb.heap.size gd cd gk ck xs ks ids W → Calls Tryd.prog 14 #[.slice (some ⟨gk, 0, none⟩) ks.length ck] W fun e w' => e = .returned (.tuple #[]) ∧ ExSt w w.heap.size bx wb.heap.size gd cd gk ck xs (flL ks) ids w') := fun ids W h => h.flipK (by omega)
  have K4 : Hid (∀ ids W, ExSt w w.heap.size bx wb.heap.size gd cd gk ck xs (flL ks) ids W → Calls Tryd.prog 11 #[.slice (some ⟨gk, 0, none⟩) ks.length ck, .slice (some ⟨gd, 0, none⟩) xs.length cd] W fun e w' => e = .returned (.agg cz) ∧ ExSt w w.heap.size bx wb.heap.size gd cd gk ck xs (flL ks) ids w') := by
    rw [hcz]
    intro ids W h
    have h2 := h.keyed HVW.out HOX.out (by omega) (flL_octs ks) (by omega)
    rw [hfk] at h2
    exact h2
  have HI1 : Hid (∀ ids W, ExSt w w.heap.size bx wb.heap.size gd cd gk ck xs ks ids W → Calls Tryd.prog 13 #[.slice (some ⟨gd, 0, none⟩) xs.length cd, .slice ao xs.length c] W fun e w' => e = .returned (.bool true) ∧ w' = W) := fun ids W h => Intact_any h.d (HX.out W h.keep) (by omega)
  have HI2 : Hid (∀ ids W, ExSt w w.heap.size bx wb.heap.size gd cd gk ck xs ks ids W → Calls Tryd.prog 13 #[.slice (some ⟨gk, 0, none⟩) ks.length ck, .slice ko ks.length kc] W fun e w' => e = .returned (.bool true) ∧ w' = W) := fun ids W h => Intact_any h.k (HKK.out W h.keep) (by omega)
  have hsza : (Tryd.prog.info? 29).map (·.size) = some ca.size := by rw [hca, idC_size (digL_len _)]; exact Tryd.infoID
  have hala : ca.all (·.oneCell') = true := by rw [hca]; exact all_oneCell_toArray (map_oneCell _)
  have h32a : (idC zid).size = ca.size := by rw [hca, idC_size (digL_len _)]; rfl
  have HCA : Hid (ca = idC (digL xs)) := hca
  have hszm : (Tryd.prog.info? 29).map (·.size) = some cm.size := by rw [hcm, idC_size (keyL_len _ _)]; exact Tryd.infoID
  have halm : cm.all (·.oneCell') = true := by rw [hcm]; exact all_oneCell_toArray (map_oneCell _)
  have h32m : (idC zid).size = cm.size := by rw [hcm, idC_size (keyL_len _ _)]; rfl
  have HCM : Hid (cm = idC (keyL ks xs)) := hcm
  have hszb : (Tryd.prog.info? 29).map (·.size) = some cb.size := by rw [hcb, idC_size (digL_len _)]; exact Tryd.infoID
  have halb : cb.all (·.oneCell') = true := by rw [hcb]; exact all_oneCell_toArray (map_oneCell _)
  have h32b : (idC zid).size = cb.size := by rw [hcb, idC_size (digL_len _)]; rfl
  have HCB : Hid (cb = idC (digL (flL xs))) := hcb
  have hszy : (Tryd.prog.info? 29).map (·.size) = some cy.size := by rw [hcy, idC_size (keyL_len _ _)]; exact Tryd.infoID
  have haly : cy.all (·.oneCell') = true := by rw [hcy]; exact all_oneCell_toArray (map_oneCell _)
  have h32y : (idC zid).size = cy.size := by rw [hcy, idC_size (keyL_len _ _)]; rfl
  have HCY : Hid (cy = idC (keyL ks (flL xs))) := hcy
  have hszz : (Tryd.prog.info? 29).map (·.size) = some cz.size := by rw [hcz, idC_size (keyL_len _ _)]; exact Tryd.infoID
  have halz : cz.all (·.oneCell') = true := by rw [hcz]; exact all_oneCell_toArray (map_oneCell _)
  have h32z : (idC zid).size = cz.size := by rw [hcz, idC_size (keyL_len _ _)]; rfl
  have HCZ : Hid (cz = idC (keyL (flL ks) xs)) := hcz
  clear hca hcm hcb hcy hcz hfx hfk
  have c00 := HC.out w3 HST.out.box
  obtain ⟨c0, c1⟩ := c00
  go_wp2_with (first
    | (refine wpList_store_row (by rfl) 29 (.tmp 11) (.tmp 53) (by rfl) w19.heap.size cz (by rfl) (by rfl) 29 _ (heap_alloc_new w19 _) hszz h32z halz ?_; rw [World.setRow_alloc_new]; have T20 : Hid (ExSt w w.heap.size bx wb.heap.size gd cd gk ck xs (flL ks) ((((((([] ++ [(w4.heap.size, ca)]) ++ [(w6.heap.size, cm)]) ++ [(w8.heap.size, ca)]) ++ [(w11.heap.size, cb)]) ++ [(w13.heap.size, cy)]) ++ [(w16.heap.size, cm)]) ++ [(w19.heap.size, cz)]) (w19.alloc (.cells cz 29))) := T19.out.add cz; generalize hq : w19.alloc (.cells cz 29) = w20 at *; clear hq)
    | (go_at_call 11; refine (K4.out _ w18 T18.out).mono ?_; rintro e w19 ⟨rfl, hT19⟩; have T19 : Hid (ExSt w w.heap.size bx wb.heap.size gd cd gk ck xs (flL ks) (((((([] ++ [(w4.heap.size, ca)]) ++ [(w6.heap.size, cm)]) ++ [(w8.heap.size, ca)]) ++ [(w11.heap.size, cb)]) ++ [(w13.heap.size, cy)]) ++ [(w16.heap.size, cm)]) w19) := hT19; clear hT19)
    | (go_at_call 14; refine (F3.out _ w17 T17.out).mono ?_; rintro e w18 ⟨rfl, hT18⟩; have T18 : Hid (ExSt w w.heap.size bx wb.heap.size gd cd gk ck xs (flL ks) (((((([] ++ [(w4.heap.size, ca)]) ++ [(w6.heap.size, cm)]) ++ [(w8.heap.size, ca)]) ++ [(w11.heap.size, cb)]) ++ [(w13.heap.size, cy)]) ++ [(w16.heap.size, cm)]) w18) := hT18; clear hT18)
    | (refine wpList_store_row (by rfl) 29 (.tmp 10) (.tmp 48) (by rfl) w16.heap.size cm (by rfl) (by rfl) 29 _ (heap_alloc_new w16 _) hszm h32m halm ?_; rw [World.setRow_alloc_new]; have T17 : Hid (ExSt w w.heap.size bx wb.heap.size gd cd gk ck xs ks (((((([] ++ [(w4.heap.size, ca)]) ++ [(w6.heap.size, cm)]) ++ [(w8.heap.size, ca)]) ++ [(w11.heap.size, cb)]) ++ [(w13.heap.size, cy)]) ++ [(w16.heap.size, cm)]) (w16.alloc (.cells cm 29))) := T16.out.add cm; generalize hq : w16.alloc (.cells cm 29) = w17 at *; clear hq)
    | (go_at_call 11; refine (K1.out _ w15 T15.out).mono ?_; rintro e w16 ⟨rfl, hT16⟩; have T16 : Hid (ExSt w w.heap.size bx wb.heap.size gd cd gk ck xs ks ((((([] ++ [(w4.heap.size, ca)]) ++ [(w6.heap.size, cm)]) ++ [(w8.heap.size, ca)]) ++ [(w11.heap.size, cb)]) ++ [(w13.heap.size, cy)]) w16) := hT16; clear hT16)
    | (go_at_call 14; refine (F2.out _ w14 T14.out).mono ?_; rintro e w15 ⟨rfl, hT15⟩; have T15 : Hid (ExSt w w.heap.size bx wb.heap.size gd cd gk ck xs ks ((((([] ++ [(w4.heap.size, ca)]) ++ [(w6.heap.size, cm)]) ++ [(w8.heap.size, ca)]) ++ [(w11.heap.size, cb)]) ++ [(w13.heap.size, cy)]) w15) := hT15; clear hT15)
    | (refine wpList_store_row (by rfl) 29 (.tmp 9) (.tmp 43) (by rfl) w13.heap.size cy (by rfl) (by rfl) 29 _ (heap_alloc_new w13 _) hszy h32y haly ?_; rw [World.setRow_alloc_new]; have T14 : Hid (ExSt w w.heap.size bx wb.heap.size gd cd gk ck (flL xs) ks ((((([] ++ [(w4.heap.size, ca)]) ++ [(w6.heap.size, cm)]) ++ [(w8.heap.size, ca)]) ++ [(w11.heap.size, cb)]) ++ [(w13.heap.size, cy)]) (w13.alloc (.cells cy 29))) := T13.out.add cy; generalize hq : w13.alloc (.cells cy 29) = w14 at *; clear hq)
    | (go_at_call 11; refine (K2.out _ w12 T12.out).mono ?_; rintro e w13 ⟨rfl, hT13⟩; have T13 : Hid (ExSt w w.heap.size bx wb.heap.size gd cd gk ck (flL xs) ks (((([] ++ [(w4.heap.size, ca)]) ++ [(w6.heap.size, cm)]) ++ [(w8.heap.size, ca)]) ++ [(w11.heap.size, cb)]) w13) := hT13; clear hT13)
    | (refine wpList_store_row (by rfl) 29 (.tmp 8) (.tmp 40) (by rfl) w11.heap.size cb (by rfl) (by rfl) 29 _ (heap_alloc_new w11 _) hszb h32b halb ?_; rw [World.setRow_alloc_new]; have T12 : Hid (ExSt w w.heap.size bx wb.heap.size gd cd gk ck (flL xs) ks (((([] ++ [(w4.heap.size, ca)]) ++ [(w6.heap.size, cm)]) ++ [(w8.heap.size, ca)]) ++ [(w11.heap.size, cb)]) (w11.alloc (.cells cb 29))) := T11.out.add cb; generalize hq : w11.alloc (.cells cb 29) = w12 at *; clear hq)
    | (go_at_call 9; refine (S2.out _ w10 T10.out).mono ?_; rintro e w11 ⟨rfl, hT11⟩; have T11 : Hid (ExSt w w.heap.size bx wb.heap.size gd cd gk ck (flL xs) ks ((([] ++ [(w4.heap.size, ca)]) ++ [(w6.heap.size, cm)]) ++ [(w8.heap.size, ca)]) w11) := hT11; clear hT11)
    | (go_at_call 14; refine (F1.out _ w9 T9.out).mono ?_; rintro e w10 ⟨rfl, hT10⟩; have T10 : Hid (ExSt w w.heap.size bx wb.heap.size gd cd gk ck (flL xs) ks ((([] ++ [(w4.heap.size, ca)]) ++ [(w6.heap.size, cm)]) ++ [(w8.heap.size, ca)]) w10) := hT10; clear hT10)
    | (refine wpList_store_row (by rfl) 29 (.tmp 7) (.tmp 36) (by rfl) w8.heap.size ca (by rfl) (by rfl) 29 _ (heap_alloc_new w8 _) hsza h32a hala ?_; rw [World.setRow_alloc_new]; have T9 : Hid (ExSt w w.heap.size bx wb.heap.size gd cd gk ck xs ks ((([] ++ [(w4.heap.size, ca)]) ++ [(w6.heap.size, cm)]) ++ [(w8.heap.size, ca)]) (w8.alloc (.cells ca 29))) := T8.out.add ca; generalize hq : w8.alloc (.cells ca 29) = w9 at *; clear hq)
    | (go_at_call 9; refine (S1.out _ w7 T7.out).mono ?_; rintro e w8 ⟨rfl, hT8⟩; have T8 : Hid (ExSt w w.heap.size bx wb.heap.size gd cd gk ck xs ks (([] ++ [(w4.heap.size, ca)]) ++ [(w6.heap.size, cm)]) w8) := hT8; clear hT8)
    | (go_at_call_of 13 (Value.slice (some ⟨gk, 0, none⟩) ks.length ck); refine (HI2.out _ w7 T7.out).mono ?_; rintro e wi ⟨rfl, hwi⟩; subst wi)
    | (go_at_call_of 13 (Value.slice (some ⟨gd, 0, none⟩) xs.length cd); refine (HI1.out _ w7 T7.out).mono ?_; rintro e wi ⟨rfl, hwi⟩; subst wi)
    | (refine wpList_store_row (by rfl) 29 (.tmp 6) (.tmp 22) (by rfl) w6.heap.size cm (by rfl) (by rfl) 29 _ (heap_alloc_new w6 _) hszm h32m halm ?_; rw [World.setRow_alloc_new]; have T7 : Hid (ExSt w w.heap.size bx wb.heap.size gd cd gk ck xs ks (([] ++ [(w4.heap.size, ca)]) ++ [(w6.heap.size, cm)]) (w6.alloc (.cells cm 29))) := T6.out.add cm; generalize hq : w6.alloc (.cells cm 29) = w7 at *; clear hq; obtain ⟨c07, c17⟩ := HC.out w7 T7.out.box)
    | (go_at_call 11; refine (K1.out _ w5 T5.out).mono ?_; rintro e w6 ⟨rfl, hT6⟩; have T6 : Hid (ExSt w w.heap.size bx wb.heap.size gd cd gk ck xs ks ([] ++ [(w4.heap.size, ca)]) w6) := hT6; clear hT6)
    | (refine wpList_store_row (by rfl) 29 (.tmp 5) (.tmp 19) (by rfl) w4.heap.size ca (by rfl) (by rfl) 29 _ (heap_alloc_new w4 _) hsza h32a hala ?_; rw [World.setRow_alloc_new]; have T5 : Hid (ExSt w w.heap.size bx wb.heap.size gd cd gk ck xs ks ([] ++ [(w4.heap.size, ca)]) (w4.alloc (.cells ca 29))) := T4.out.add ca; generalize hq : w4.alloc (.cells ca 29) = w5 at *; clear hq)
    | (go_at_call 9; refine (S1.out _ w3 HST.out).mono ?_; rintro e w4 ⟨rfl, hT4⟩; have T4 : Hid (ExSt w w.heap.size bx wb.heap.size gd cd gk ck xs ks [] w4) := hT4; clear hT4))
  clear S1 K1 F1 S2 K2 F2 F3 K4 HI1 HI2 HST T4 T5 T6 T7 T8 T9 T10 T11 T12 T13 T14 T15 T16 T17 T18 T19 c0 c1 c07 c17
  have heqa : ∀ W, (Op.equalIn 10000 29 (.agg ca) (.agg ca)).run Tryd.prog W = .ok true W := fun W => by rw [HCA.out, idEq _ _ W (digL_len _) (digL_len _), decide_eq_true rfl]
  have heqm : ∀ W, (Op.equalIn 10000 29 (.agg cm) (.agg cm)).run Tryd.prog W = .ok true W := fun W => by rw [HCM.out, idEq _ _ W (keyL_len _ _) (keyL_len _ _), decide_eq_true rfl]
  have heqb : ∀ W, (Op.equalIn 10000 29 (.agg cb) (.agg cb)).run Tryd.prog W = .ok true W := fun W => by rw [HCB.out, idEq _ _ W (digL_len _) (digL_len _), decide_eq_true rfl]
  have heqy : ∀ W, (Op.equalIn 10000 29 (.agg cy) (.agg cy)).run Tryd.prog W = .ok true W := fun W => by rw [HCY.out, idEq _ _ W (keyL_len _ _) (keyL_len _ _), decide_eq_true rfl]
  have heqz : ∀ W, (Op.equalIn 10000 29 (.agg cz) (.agg cz)).run Tryd.prog W = .ok true W := fun W => by rw [HCZ.out, idEq _ _ W (keyL_len _ _) (keyL_len _ _), decide_eq_true rfl]
  have HR1 : Hid (∀ W v, Kept [] w W → BytesAt W v (flL xs) → Calls Tryd.prog 15 #[v] W fun e w' => e = .returned (.agg cb) ∧ Kept [] W w') := by
    rw [HCB.out]; exact fun W v hW hv => RSum_any W (HRW.out W hW) v _ hv (flL_octs xs) (by rw [flL_len]; omega)
  have HR2 : Hid (∀ W v, Kept [] w W → BytesAt W v (flL xs) → Calls Tryd.prog 17 #[.slice ko ks.length kc, v] W fun e w' => e = .returned (.agg cy) ∧ Kept [] W w') := by
    rw [HCY.out]; exact fun W v hW hv => RKeyed_any W (HRW.out W hW) _ v ks _ (HKK.out W hW) HOK.out (by omega) hv (flL_octs xs) (by rw [flL_len]; omega)
  have HR3 : Hid (∀ W v, Kept [] w W → BytesAt W v (flL ks) → Calls Tryd.prog 17 #[v, .slice ao xs.length c] W fun e w' => e = .returned (.agg cz) ∧ Kept [] W w') := by
    rw [HCZ.out]; exact fun W v hW hv => RKeyed_any W (HRW.out W hW) v _ _ xs hv (flL_octs ks) (by rw [flL_len]; omega) (HX.out W hW) HOX.out (by omega)
  have HR4 : Hid (∀ W, Kept [] w W → Calls Tryd.prog 15 #[.slice ao xs.length c] W fun e w' => e = .returned (.agg ca) ∧ Kept [] W w') := by
    rw [HCA.out]; exact fun W hW => RSum_any W (HRW.out W hW) _ _ (HX.out W hW) HOX.out (by omega)
  have HR5 : Hid (∀ W, Kept [] w W → Calls Tryd.prog 17 #[.slice ko ks.length kc, .slice ao xs.length c] W fun e w' => e = .returned (.agg cm) ∧ Kept [] W w') := by
    rw [HCM.out]; exact fun W hW => RKeyed_any W (HRW.out W hW) _ _ _ _ (HKK.out W hW) HOK.out (by omega) (HX.out W hW) HOX.out (by omega)
  simp only [Act.put]
  refine wp_region_held_drew (S := (fun W => ExSt w w.heap.size bx wb.heap.size gd cd gk ck xs (flL ks) ((((((([] ++ [(w4.heap.size, ca)]) ++ [(w6.heap.size, cm)]) ++ [(w8.heap.size, ca)]) ++ [(w11.heap.size, cb)]) ++ [(w13.heap.size, cy)]) ++ [(w16.heap.size, cm)]) ++ [(w19.heap.size, cz)]) W)) (by kernel_rfl) (T20.out.kept (Kept.refl [] w20).drew) (fun hHeld => ?_)
  refine takeH 0 (v := .agg ca) (some 54) #[true, false, false, false, false, false, false, false, false, false, false, false, false, false, false, false, false, false, false, false, false, false, false, false, false, false, false, false, false, false, false, false, false, false, false, false] rfl rfl rfl (by kernel_rfl) (by kernel_rfl) (by kernel_rfl) (fun _ _ _ h => h) (yields_row (by rfl) (.tmp 7) rfl w8.heap.size rfl ca (fun W hW => (ExSt.ids hW (w8.heap.size, ca) (by simp)).1) hsza) hHeld ?_
  simp only [Act.put, List.setIfInBounds_toArray]
  refine takeH 1 (v := .agg ca) (some 55) #[true, true, false, false, false, false, false, false, false, false, false, false, false, false, false, false, false, false, false, false, false, false, false, false, false, false, false, false, false, false, false, false, false, false, false, false] rfl rfl rfl (by kernel_rfl) (by kernel_rfl) (by kernel_rfl) (fun _ _ _ h => h) (yields_row (by rfl) (.tmp 5) rfl w4.heap.size rfl ca (fun W hW => (ExSt.ids hW (w4.heap.size, ca) (by simp)).1) hsza) hHeld ?_
  simp only [Act.put, List.setIfInBounds_toArray]
  refine takeH 2 (v := .bool false) (some 56) #[true, true, true, false, false, false, false, false, false, false, false, false, false, false, false, false, false, false, false, false, false, false, false, false, false, false, false, false, false, false, false, false, false, false, false, false] rfl rfl rfl (by kernel_rfl) (by kernel_rfl) (by kernel_rfl) (fun _ _ _ h => h) (yields_neq (by rfl) (.tmp 54) (.tmp 55) _ rfl ca ca rfl rfl true heqa) hHeld ?_
  simp only [Act.put, List.setIfInBounds_toArray]
  refine takeH 3 (v := .bool false) (some 57) #[true, true, true, true, false, false, false, false, false, false, false, false, false, false, false, false, false, false, false, false, false, false, false, false, false, false, false, false, false, false, false, false, false, false, false, false] rfl rfl rfl (by kernel_rfl) (by kernel_rfl) (by kernel_rfl) (fun _ _ _ h => h) (Or.inl ⟨by rfl, fun W hSW => by go_simp⟩) hHeld ?_
  simp only [Act.put, List.setIfInBounds_toArray]
  refine takeH 4 (v := .agg cm) (some 58) #[true, true, true, true, true, false, false, false, false, false, false, false, false, false, false, false, false, false, false, false, false, false, false, false, false, false, false, false, false, false, false, false, false, false, false, false] rfl rfl rfl (by kernel_rfl) (by kernel_rfl) (by kernel_rfl) (fun _ _ _ h => h) (yields_row (by rfl) (.tmp 10) rfl w16.heap.size rfl cm (fun W hW => (ExSt.ids hW (w16.heap.size, cm) (by simp)).1) hszm) hHeld ?_
  simp only [Act.put, List.setIfInBounds_toArray]
  refine takeH 5 (v := .agg cm) (some 59) #[true, true, true, true, true, true, false, false, false, false, false, false, false, false, false, false, false, false, false, false, false, false, false, false, false, false, false, false, false, false, false, false, false, false, false, false] rfl rfl rfl (by kernel_rfl) (by kernel_rfl) (by kernel_rfl) (fun _ _ _ h => h) (yields_row (by rfl) (.tmp 6) rfl w6.heap.size rfl cm (fun W hW => (ExSt.ids hW (w6.heap.size, cm) (by simp)).1) hszm) hHeld ?_
  simp only [Act.put, List.setIfInBounds_toArray]
  refine takeH 6 (v := .bool false) (some 60) #[true, true, true, true, true, true, true, false, false, false, false, false, false, false, false, false, false, false, false, false, false, false, false, false, false, false, false, false, false, false, false, false, false, false, false, false] rfl rfl rfl (by kernel_rfl) (by kernel_rfl) (by kernel_rfl) (fun _ _ _ h => h) (yields_neq (by rfl) (.tmp 58) (.tmp 59) _ rfl cm cm rfl rfl true heqm) hHeld ?_
  simp only [Act.put, List.setIfInBounds_toArray]
  refine takeH 7 (v := .bool false) (some 61) #[true, true, true, true, true, true, true, true, false, false, false, false, false, false, false, false, false, false, false, false, false, false, false, false, false, false, false, false, false, false, false, false, false, false, false, false] rfl rfl rfl (by kernel_rfl) (by kernel_rfl) (by kernel_rfl) (fun _ _ _ h => h) (Or.inl ⟨by rfl, fun W hSW => by go_simp⟩) hHeld ?_
  simp only [Act.put, List.setIfInBounds_toArray]
  refine takeH 8 (v := .bool false) (some 62) #[true, true, true, true, true, true, true, true, true, false, false, false, false, false, false, false, false, false, false, false, false, false, false, false, false, false, false, false, false, false, false, false, false, false, false, false] rfl rfl rfl (by kernel_rfl) (by kernel_rfl) (by kernel_rfl) (fun _ _ _ h => h) (Or.inl ⟨by rfl, fun W hSW => by go_simp⟩) hHeld ?_
  simp only [Act.put, List.setIfInBounds_toArray]
  refine takeH 9 (v := .agg cb) (some 63) #[true, true, true, true, true, true, true, true, true, true, false, false, false, false, false, false, false, false, false, false, false, false, false, false, false, false, false, false, false, false, false, false, false, false, false, false] rfl rfl rfl (by kernel_rfl) (by kernel_rfl) (by kernel_rfl) (fun _ _ _ h => h) (yields_row (by rfl) (.tmp 8) rfl w11.heap.size rfl cb (fun W hW => (ExSt.ids hW (w11.heap.size, cb) (by simp)).1) hszb) hHeld ?_
  simp only [Act.put, List.setIfInBounds_toArray]
  refine takeH 10 (v := .pointer (some ⟨w.heap.size, 0, none⟩)) (some 64) #[true, true, true, true, true, true, true, true, true, true, true, false, false, false, false, false, false, false, false, false, false, false, false, false, false, false, false, false, false, false, false, false, false, false, false, false] rfl rfl rfl (by kernel_rfl) (by kernel_rfl) (by kernel_rfl) (fun _ _ _ h => h) (Or.inl ⟨by rfl, fun W hSW => by go_simp⟩) hHeld ?_
  simp only [Act.put, List.setIfInBounds_toArray]
  refine takeH 11 (v := .slice ao xs.length c) (some 65) #[true, true, true, true, true, true, true, true, true, true, true, true, false, false, false, false, false, false, false, false, false, false, false, false, false, false, false, false, false, false, false, false, false, false, false, false] rfl rfl rfl (by kernel_rfl) (by kernel_rfl) (by kernel_rfl) (fun _ _ _ h => h) (Or.inl ⟨by rfl, fun W hSW => by have h0 := (HC.out W (ExSt.box hSW)).1; go_simp⟩) hHeld ?_
  simp only [Act.put, List.setIfInBounds_toArray]
  refine wpAnyH_ready (rs := [12]) (by kernel_rfl) (by simp) (AllReadyH.cons rfl (fun K hK => ?_) AllReadyH.nil)
  rw [if_pos (by rfl)]
  go_simp
  refine (flipped_any _ _ xs (HX.out _ (ExSt.keep hHeld)) (by omega)).mono ?_
  rintro e w21 ⟨g21, rfl, _, hb21, hkw21⟩
  refine hK.out _ _ (hHeld.kept hkw21) (fun hHeld => ?_)
  clear hK K
  refine wpAnyH_ready (rs := [13]) (by kernel_rfl) (by simp) (AllReadyH.cons rfl (fun K hK => ?_) AllReadyH.nil)
  rw [if_pos (by rfl)]
  go_simp
  refine (HR1.out _ _ (ExSt.keep hHeld) hb21).mono ?_
  rintro e w22 ⟨rfl, hkw22⟩
  refine hK.out _ _ (hHeld.kept hkw22) (fun hHeld => ?_)
  clear hK K
  clear hb21
  refine takeH 14 (v := .bool false) (some 68) #[true, true, true, true, true, true, true, true, true, true, true, true, true, true, true, false, false, false, false, false, false, false, false, false, false, false, false, false, false, false, false, false, false, false, false, false] rfl rfl rfl (by kernel_rfl) (by kernel_rfl) (by kernel_rfl) (fun _ _ _ h => h) (yields_neq (by rfl) (.tmp 63) (.tmp 67) _ rfl cb cb rfl rfl true heqb) hHeld ?_
  simp only [Act.put, List.setIfInBounds_toArray]
  refine takeH 15 (v := .bool false) (some 69) #[true, true, true, true, true, true, true, true, true, true, true, true, true, true, true, true, false, false, false, false, false, false, false, false, false, false, false, false, false, false, false, false, false, false, false, false] rfl rfl rfl (by kernel_rfl) (by kernel_rfl) (by kernel_rfl) (fun _ _ _ h => h) (Or.inl ⟨by rfl, fun W hSW => by go_simp⟩) hHeld ?_
  simp only [Act.put, List.setIfInBounds_toArray]
  refine takeH 16 (v := .bool false) (some 70) #[true, true, true, true, true, true, true, true, true, true, true, true, true, true, true, true, true, false, false, false, false, false, false, false, false, false, false, false, false, false, false, false, false, false, false, false] rfl rfl rfl (by kernel_rfl) (by kernel_rfl) (by kernel_rfl) (fun _ _ _ h => h) (Or.inl ⟨by rfl, fun W hSW => by go_simp⟩) hHeld ?_
  simp only [Act.put, List.setIfInBounds_toArray]
  refine takeH 17 (v := .agg cy) (some 71) #[true, true, true, true, true, true, true, true, true, true, true, true, true, true, true, true, true, true, false, false, false, false, false, false, false, false, false, false, false, false, false, false, false, false, false, false] rfl rfl rfl (by kernel_rfl) (by kernel_rfl) (by kernel_rfl) (fun _ _ _ h => h) (yields_row (by rfl) (.tmp 9) rfl w13.heap.size rfl cy (fun W hW => (ExSt.ids hW (w13.heap.size, cy) (by simp)).1) hszy) hHeld ?_
  simp only [Act.put, List.setIfInBounds_toArray]
  refine takeH 18 (v := .pointer (some ⟨w.heap.size, 1, none⟩)) (some 72) #[true, true, true, true, true, true, true, true, true, true, true, true, true, true, true, true, true, true, true, false, false, false, false, false, false, false, false, false, false, false, false, false, false, false, false, false] rfl rfl rfl (by kernel_rfl) (by kernel_rfl) (by kernel_rfl) (fun _ _ _ h => h) (Or.inl ⟨by rfl, fun W hSW => by go_simp⟩) hHeld ?_
  simp only [Act.put, List.setIfInBounds_toArray]
  refine takeH 19 (v := .slice ko ks.length kc) (some 73) #[true, true, true, true, true, true, true, true, true, true, true, true, true, true, true, true, true, true, true, true, false, false, false, false, false, false, false, false, false, false, false, false, false, false, false, false] rfl rfl rfl (by kernel_rfl) (by kernel_rfl) (by kernel_rfl) (fun _ _ _ h => h) (Or.inl ⟨by rfl, fun W hSW => by have h0 := (HC.out W (ExSt.box hSW)).2; go_simp⟩) hHeld ?_
  simp only [Act.put, List.setIfInBounds_toArray]
  refine takeH 20 (v := .pointer (some ⟨w.heap.size, 0, none⟩)) (some 74) #[true, true, true, true, true, true, true, true, true, true, true, true, true, true, true, true, true, true, true, true, true, false, false, false, false, false, false, false, false, false, false, false, false, false, false, false] rfl rfl rfl (by kernel_rfl) (by kernel_rfl) (by kernel_rfl) (fun _ _ _ h => h) (Or.inl ⟨by rfl, fun W hSW => by go_simp⟩) hHeld ?_
  simp only [Act.put, List.setIfInBounds_toArray]
  refine takeH 21 (v := .slice ao xs.length c) (some 75) #[true, true, true, true, true, true, true, true, true, true, true, true, true, true, true, true, true, true, true, true, true, true, false, false, false, false, false, false, false, false, false, false, false, false, false, false] rfl rfl rfl (by kernel_rfl) (by kernel_rfl) (by kernel_rfl) (fun _ _ _ h => h) (Or.inl ⟨by rfl, fun W hSW => by have h0 := (HC.out W (ExSt.box hSW)).1; go_simp⟩) hHeld ?_
  simp only [Act.put, List.setIfInBounds_toArray]
  refine wpAnyH_ready (rs := [22]) (by kernel_rfl) (by simp) (AllReadyH.cons rfl (fun K hK => ?_) AllReadyH.nil)
  rw [if_pos (by rfl)]
  go_simp
  refine (flipped_any _ _ xs (HX.out _ (ExSt.keep hHeld)) (by omega)).mono ?_
  rintro e w23 ⟨g23, rfl, _, hb23, hkw23⟩
  refine hK.out _ _ (hHeld.kept hkw23) (fun hHeld => ?_)
  clear hK K
  refine wpAnyH_ready (rs := [23]) (by kernel_rfl) (by simp) (AllReadyH.cons rfl (fun K hK => ?_) AllReadyH.nil)
  rw [if_pos (by rfl)]
  go_simp
  refine (HR2.out _ _ (ExSt.keep hHeld) hb23).mono ?_
  rintro e w24 ⟨rfl, hkw24⟩
  refine hK.out _ _ (hHeld.kept hkw24) (fun hHeld => ?_)
  clear hK K
  clear hb23
  refine takeH 24 (v := .bool false) (some 78) #[true, true, true, true, true, true, true, true, true, true, true, true, true, true, true, true, true, true, true, true, true, true, true, true, true, false, false, false, false, false, false, false, false, false, false, false] rfl rfl rfl (by kernel_rfl) (by kernel_rfl) (by kernel_rfl) (fun _ _ _ h => h) (yields_neq (by rfl) (.tmp 71) (.tmp 77) _ rfl cy cy rfl rfl true heqy) hHeld ?_
  simp only [Act.put, List.setIfInBounds_toArray]
  refine takeH 25 (v := .bool false) (some 79) #[true, true, true, true, true, true, true, true, true, true, true, true, true, true, true, true, true, true, true, true, true, true, true, true, true, true, false, false, false, false, false, false, false, false, false, false] rfl rfl rfl (by kernel_rfl) (by kernel_rfl) (by kernel_rfl) (fun _ _ _ h => h) (Or.inl ⟨by rfl, fun W hSW => by go_simp⟩) hHeld ?_
  simp only [Act.put, List.setIfInBounds_toArray]
  refine takeH 26 (v := .bool false) (some 80) #[true, true, true, true, true, true, true, true, true, true, true, true, true, true, true, true, true, true, true, true, true, true, true, true, true, true, true, false, false, false, false, false, false, false, false, false] rfl rfl rfl (by kernel_rfl) (by kernel_rfl) (by kernel_rfl) (fun _ _ _ h => h) (Or.inl ⟨by rfl, fun W hSW => by go_simp⟩) hHeld ?_
  simp only [Act.put, List.setIfInBounds_toArray]
  refine takeH 27 (v := .agg cz) (some 81) #[true, true, true, true, true, true, true, true, true, true, true, true, true, true, true, true, true, true, true, true, true, true, true, true, true, true, true, true, false, false, false, false, false, false, false, false] rfl rfl rfl (by kernel_rfl) (by kernel_rfl) (by kernel_rfl) (fun _ _ _ h => h) (yields_row (by rfl) (.tmp 11) rfl w19.heap.size rfl cz (fun W hW => (ExSt.ids hW (w19.heap.size, cz) (by simp)).1) hszz) hHeld ?_
  simp only [Act.put, List.setIfInBounds_toArray]
  refine takeH 28 (v := .pointer (some ⟨w.heap.size, 1, none⟩)) (some 82) #[true, true, true, true, true, true, true, true, true, true, true, true, true, true, true, true, true, true, true, true, true, true, true, true, true, true, true, true, true, false, false, false, false, false, false, false] rfl rfl rfl (by kernel_rfl) (by kernel_rfl) (by kernel_rfl) (fun _ _ _ h => h) (Or.inl ⟨by rfl, fun W hSW => by go_simp⟩) hHeld ?_
  simp only [Act.put, List.setIfInBounds_toArray]
  refine takeH 29 (v := .slice ko ks.length kc) (some 83) #[true, true, true, true, true, true, true, true, true, true, true, true, true, true, true, true, true, true, true, true, true, true, true, true, true, true, true, true, true, true, false, false, false, false, false, false] rfl rfl rfl (by kernel_rfl) (by kernel_rfl) (by kernel_rfl) (fun _ _ _ h => h) (Or.inl ⟨by rfl, fun W hSW => by have h0 := (HC.out W (ExSt.box hSW)).2; go_simp⟩) hHeld ?_
  simp only [Act.put, List.setIfInBounds_toArray]
  refine takeH 31 (v := .pointer (some ⟨w.heap.size, 0, none⟩)) (some 85) #[true, true, true, true, true, true, true, true, true, true, true, true, true, true, true, true, true, true, true, true, true, true, true, true, true, true, true, true, true, true, false, true, false, false, false, false] rfl rfl rfl (by kernel_rfl) (by kernel_rfl) (by kernel_rfl) (fun _ _ _ h => h) (Or.inl ⟨by rfl, fun W hSW => by go_simp⟩) hHeld ?_
  simp only [Act.put, List.setIfInBounds_toArray]
  refine takeH 32 (v := .slice ao xs.length c) (some 86) #[true, true, true, true, true, true, true, true, true, true, true, true, true, true, true, true, true, true, true, true, true, true, true, true, true, true, true, true, true, true, false, true, true, false, false, false] rfl rfl rfl (by kernel_rfl) (by kernel_rfl) (by kernel_rfl) (fun _ _ _ h => h) (Or.inl ⟨by rfl, fun W hSW => by have h0 := (HC.out W (ExSt.box hSW)).1; go_simp⟩) hHeld ?_
  simp only [Act.put, List.setIfInBounds_toArray]
  refine wpAnyH_ready (rs := [30]) (by kernel_rfl) (by simp) (AllReadyH.cons rfl (fun K hK => ?_) AllReadyH.nil)
  rw [if_pos (by rfl)]
  go_simp
  refine (flipped_any _ _ ks (HKK.out _ (ExSt.keep hHeld)) (by omega)).mono ?_
  rintro e w25 ⟨g25, rfl, _, hb25, hkw25⟩
  refine hK.out _ _ (hHeld.kept hkw25) (fun hHeld => ?_)
  clear hK K
  refine wpAnyH_ready (rs := [33]) (by kernel_rfl) (by simp) (AllReadyH.cons rfl (fun K hK => ?_) AllReadyH.nil)
  rw [if_pos (by rfl)]
  go_simp
  refine (HR3.out _ _ (ExSt.keep hHeld) hb25).mono ?_
  rintro e w26 ⟨rfl, hkw26⟩
  refine hK.out _ _ (hHeld.kept hkw26) (fun hHeld => ?_)
  clear hK K
  clear hb25
  refine takeH 34 (v := .bool false) (some 88) #[true, true, true, true, true, true, true, true, true, true, true, true, true, true, true, true, true, true, true, true, true, true, true, true, true, true, true, true, true, true, true, true, true, true, true, false] rfl rfl rfl (by kernel_rfl) (by kernel_rfl) (by kernel_rfl) (fun _ _ _ h => h) (yields_neq (by rfl) (.tmp 81) (.tmp 87) _ rfl cz cz rfl rfl true heqz) hHeld ?_
  simp only [Act.put, List.setIfInBounds_toArray]
  refine takeH 35 (v := .bool false) (some 89) #[true, true, true, true, true, true, true, true, true, true, true, true, true, true, true, true, true, true, true, true, true, true, true, true, true, true, true, true, true, true, true, true, true, true, true, true] rfl rfl rfl (by kernel_rfl) (by kernel_rfl) (by kernel_rfl) (fun _ _ _ h => h) (Or.inl ⟨by rfl, fun W hSW => by go_simp⟩) hHeld ?_
  simp only [Act.put, List.setIfInBounds_toArray]
  refine wpAnyH_done (by kernel_rfl) ?_ _
  have T26 : Hid (ExSt w w.heap.size bx wb.heap.size gd cd gk ck xs (flL ks) ((((((([] ++ [(w4.heap.size, ca)]) ++ [(w6.heap.size, cm)]) ++ [(w8.heap.size, ca)]) ++ [(w11.heap.size, cb)]) ++ [(w13.heap.size, cy)]) ++ [(w16.heap.size, cm)]) ++ [(w19.heap.size, cz)]) w26) := hHeld
  clear hHeld
  obtain ⟨hx, hhx⟩ : ∃ hx, hx = strOfNums (hexL (digL xs)) := ⟨_, rfl⟩
  have HX1 : Hid (∀ W, Calls Tryd.prog 8 #[.agg ca] W fun e w' => e = .returned (.string hx) ∧ Kept [] W w') := by
    rw [HCA.out, hhx]; exact fun W => Hex_any (digL xs) W (digL_len _) (digL_octs _)
  have HX2 : Hid (∀ W, Calls Tryd.prog 18 #[.agg ca] W fun e w' => e = .returned (.string hx) ∧ Kept [] W w') := by
    rw [HCA.out, hhx]; exact fun W => RHex_any (digL xs) W ⟨digL_len _, digL_octs _⟩
  clear hhx
  go_wp2
  refine wp_region_held_drew (S := (fun W => ExSt w w.heap.size bx wb.heap.size gd cd gk ck xs (flL ks) ((((((([] ++ [(w4.heap.size, ca)]) ++ [(w6.heap.size, cm)]) ++ [(w8.heap.size, ca)]) ++ [(w11.heap.size, cb)]) ++ [(w13.heap.size, cy)]) ++ [(w16.heap.size, cm)]) ++ [(w19.heap.size, cz)]) W)) (by kernel_rfl) (T26.out.kept (Kept.refl [] w26).drew) (fun hHeld => ?_)
  refine takeH 0 (v := .agg ca) (some 90) #[true, false, false, false, false, false, false, false, false, false, false, false, false, false, false, false, false, false, false, false, false, false] rfl rfl rfl (by kernel_rfl) (by kernel_rfl) (by kernel_rfl) (fun _ _ _ h => h) (yields_row (by rfl) (.tmp 5) rfl w4.heap.size rfl ca (fun W hW => (ExSt.ids hW (w4.heap.size, ca) (by simp)).1) hsza) hHeld ?_
  simp only [Act.put, List.setIfInBounds_toArray]
  refine takeH 1 (v := .pointer (some ⟨w.heap.size, 0, none⟩)) (some 91) #[true, true, false, false, false, false, false, false, false, false, false, false, false, false, false, false, false, false, false, false, false, false] rfl rfl rfl (by kernel_rfl) (by kernel_rfl) (by kernel_rfl) (fun _ _ _ h => h) (Or.inl ⟨by rfl, fun W hSW => by go_simp⟩) hHeld ?_
  simp only [Act.put, List.setIfInBounds_toArray]
  refine takeH 2 (v := .slice ao xs.length c) (some 92) #[true, true, true, false, false, false, false, false, false, false, false, false, false, false, false, false, false, false, false, false, false, false] rfl rfl rfl (by kernel_rfl) (by kernel_rfl) (by kernel_rfl) (fun _ _ _ h => h) (Or.inl ⟨by rfl, fun W hSW => by have h0 := (HC.out W (ExSt.box hSW)).1; go_simp⟩) hHeld ?_
  simp only [Act.put, List.setIfInBounds_toArray]
  refine wpAnyH_ready (rs := [3]) (by kernel_rfl) (by simp) (AllReadyH.cons rfl (fun K hK => ?_) AllReadyH.nil)
  rw [if_pos (by rfl)]
  go_simp
  refine (HR4.out _ (ExSt.keep hHeld)).mono ?_
  rintro e w27 ⟨rfl, hkw27⟩
  refine hK.out _ _ (hHeld.kept hkw27) (fun hHeld => ?_)
  clear hK K
  refine takeH 4 (v := .bool true) (some 94) #[true, true, true, true, true, false, false, false, false, false, false, false, false, false, false, false, false, false, false, false, false, false] rfl rfl rfl (by kernel_rfl) (by kernel_rfl) (by kernel_rfl) (fun _ _ _ h => h) (yields_eql (by rfl) (.tmp 90) (.tmp 93) _ rfl ca ca rfl rfl true heqa) hHeld ?_
  simp only [Act.put, List.setIfInBounds_toArray]
  refine takeH 5 (v := .bool true) (some 95) #[true, true, true, true, true, true, false, false, false, false, false, false, false, false, false, false, false, false, false, false, false, false] rfl rfl rfl (by kernel_rfl) (by kernel_rfl) (by kernel_rfl) (fun _ _ _ h => h) (Or.inl ⟨by rfl, fun W hSW => by go_simp⟩) hHeld ?_
  simp only [Act.put, List.setIfInBounds_toArray]
  refine takeH 6 (v := .agg cm) (some 96) #[true, true, true, true, true, true, true, false, false, false, false, false, false, false, false, false, false, false, false, false, false, false] rfl rfl rfl (by kernel_rfl) (by kernel_rfl) (by kernel_rfl) (fun _ _ _ h => h) (yields_row (by rfl) (.tmp 6) rfl w6.heap.size rfl cm (fun W hW => (ExSt.ids hW (w6.heap.size, cm) (by simp)).1) hszm) hHeld ?_
  simp only [Act.put, List.setIfInBounds_toArray]
  refine takeH 7 (v := .pointer (some ⟨w.heap.size, 1, none⟩)) (some 97) #[true, true, true, true, true, true, true, true, false, false, false, false, false, false, false, false, false, false, false, false, false, false] rfl rfl rfl (by kernel_rfl) (by kernel_rfl) (by kernel_rfl) (fun _ _ _ h => h) (Or.inl ⟨by rfl, fun W hSW => by go_simp⟩) hHeld ?_
  simp only [Act.put, List.setIfInBounds_toArray]
  refine takeH 8 (v := .slice ko ks.length kc) (some 98) #[true, true, true, true, true, true, true, true, true, false, false, false, false, false, false, false, false, false, false, false, false, false] rfl rfl rfl (by kernel_rfl) (by kernel_rfl) (by kernel_rfl) (fun _ _ _ h => h) (Or.inl ⟨by rfl, fun W hSW => by have h0 := (HC.out W (ExSt.box hSW)).2; go_simp⟩) hHeld ?_
  simp only [Act.put, List.setIfInBounds_toArray]
  refine takeH 9 (v := .pointer (some ⟨w.heap.size, 0, none⟩)) (some 99) #[true, true, true, true, true, true, true, true, true, true, false, false, false, false, false, false, false, false, false, false, false, false] rfl rfl rfl (by kernel_rfl) (by kernel_rfl) (by kernel_rfl) (fun _ _ _ h => h) (Or.inl ⟨by rfl, fun W hSW => by go_simp⟩) hHeld ?_
  simp only [Act.put, List.setIfInBounds_toArray]
  refine takeH 10 (v := .slice ao xs.length c) (some 100) #[true, true, true, true, true, true, true, true, true, true, true, false, false, false, false, false, false, false, false, false, false, false] rfl rfl rfl (by kernel_rfl) (by kernel_rfl) (by kernel_rfl) (fun _ _ _ h => h) (Or.inl ⟨by rfl, fun W hSW => by have h0 := (HC.out W (ExSt.box hSW)).1; go_simp⟩) hHeld ?_
  simp only [Act.put, List.setIfInBounds_toArray]
  refine wpAnyH_ready (rs := [11]) (by kernel_rfl) (by simp) (AllReadyH.cons rfl (fun K hK => ?_) AllReadyH.nil)
  rw [if_pos (by rfl)]
  go_simp
  refine (HR5.out _ (ExSt.keep hHeld)).mono ?_
  rintro e w28 ⟨rfl, hkw28⟩
  refine hK.out _ _ (hHeld.kept hkw28) (fun hHeld => ?_)
  clear hK K
  refine takeH 12 (v := .bool true) (some 102) #[true, true, true, true, true, true, true, true, true, true, true, true, true, false, false, false, false, false, false, false, false, false] rfl rfl rfl (by kernel_rfl) (by kernel_rfl) (by kernel_rfl) (fun _ _ _ h => h) (yields_eql (by rfl) (.tmp 96) (.tmp 101) _ rfl cm cm rfl rfl true heqm) hHeld ?_
  simp only [Act.put, List.setIfInBounds_toArray]
  refine takeH 13 (v := .bool true) (some 103) #[true, true, true, true, true, true, true, true, true, true, true, true, true, true, false, false, false, false, false, false, false, false] rfl rfl rfl (by kernel_rfl) (by kernel_rfl) (by kernel_rfl) (fun _ _ _ h => h) (Or.inl ⟨by rfl, fun W hSW => by go_simp⟩) hHeld ?_
  simp only [Act.put, List.setIfInBounds_toArray]
  refine takeH 14 (v := .bool true) (some 104) #[true, true, true, true, true, true, true, true, true, true, true, true, true, true, true, false, false, false, false, false, false, false] rfl rfl rfl (by kernel_rfl) (by kernel_rfl) (by kernel_rfl) (fun _ _ _ h => h) (Or.inl ⟨by rfl, fun W hSW => by go_simp⟩) hHeld ?_
  simp only [Act.put, List.setIfInBounds_toArray]
  refine takeH 15 (v := .agg ca) (some 105) #[true, true, true, true, true, true, true, true, true, true, true, true, true, true, true, true, false, false, false, false, false, false] rfl rfl rfl (by kernel_rfl) (by kernel_rfl) (by kernel_rfl) (fun _ _ _ h => h) (yields_row (by rfl) (.tmp 5) rfl w4.heap.size rfl ca (fun W hW => (ExSt.ids hW (w4.heap.size, ca) (by simp)).1) hsza) hHeld ?_
  simp only [Act.put, List.setIfInBounds_toArray]
  refine takeH 17 (v := .agg ca) (some 107) #[true, true, true, true, true, true, true, true, true, true, true, true, true, true, true, true, false, true, false, false, false, false] rfl rfl rfl (by kernel_rfl) (by kernel_rfl) (by kernel_rfl) (fun _ _ _ h => h) (yields_row (by rfl) (.tmp 5) rfl w4.heap.size rfl ca (fun W hW => (ExSt.ids hW (w4.heap.size, ca) (by simp)).1) hsza) hHeld ?_
  simp only [Act.put, List.setIfInBounds_toArray]
  refine wpAnyH_ready (rs := [16]) (by kernel_rfl) (by simp) (AllReadyH.cons rfl (fun K hK => ?_) AllReadyH.nil)
  rw [if_pos (by rfl)]
  go_simp
  refine (HX1.out _).mono ?_
  rintro e w29 ⟨rfl, hkw29⟩
  refine hK.out _ _ (hHeld.kept hkw29) (fun hHeld => ?_)
  clear hK K
  refine wpAnyH_ready (rs := [18]) (by kernel_rfl) (by simp) (AllReadyH.cons rfl (fun K hK => ?_) AllReadyH.nil)
  rw [if_pos (by rfl)]
  go_simp
  refine (HX2.out _).mono ?_
  rintro e w30 ⟨rfl, hkw30⟩
  refine hK.out _ _ (hHeld.kept hkw30) (fun hHeld => ?_)
  clear hK K
  refine takeH 19 (v := .bool true) (some 109) #[true, true, true, true, true, true, true, true, true, true, true, true, true, true, true, true, true, true, true, true, false, false] rfl rfl rfl (by kernel_rfl) (by kernel_rfl) (by kernel_rfl) (fun _ _ _ h => h) (Or.inl ⟨by rfl, fun W hSW => by go_simp⟩) hHeld ?_
  simp only [Act.put, List.setIfInBounds_toArray]
  refine takeH 20 (v := .bool true) (some 110) #[true, true, true, true, true, true, true, true, true, true, true, true, true, true, true, true, true, true, true, true, true, false] rfl rfl rfl (by kernel_rfl) (by kernel_rfl) (by kernel_rfl) (fun _ _ _ h => h) (Or.inl ⟨by rfl, fun W hSW => by go_simp⟩) hHeld ?_
  simp only [Act.put, List.setIfInBounds_toArray]
  refine takeH 21 (v := .bool true) (some 2) #[true, true, true, true, true, true, true, true, true, true, true, true, true, true, true, true, true, true, true, true, true, true] rfl rfl rfl (by kernel_rfl) (by kernel_rfl) (by kernel_rfl) (fun _ _ _ h => h) (Or.inl ⟨by rfl, fun W hSW => by go_simp⟩) hHeld ?_
  simp only [Act.put, List.setIfInBounds_toArray]
  refine wpAnyH_done (by kernel_rfl) ?_ _
  have HKF : Hid (Kept [] w w30) := ExSt.keep hHeld
  clear hHeld
  go_wp2
  go_ret
  exact ⟨rfl, HKF.out⟩
end Go.Proofs.YtdjfcackiclepaaDoor
