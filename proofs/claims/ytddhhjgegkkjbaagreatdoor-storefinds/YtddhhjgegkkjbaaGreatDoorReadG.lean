/-
  WALK: object.read, of a tree.
  WALK: object.read, of a tag.
-/
import Derived.Test.YtddhhjgegkkjbaaGreatDoorReadC
namespace Go.Proofs.YtddhhjgegkkjbaaGreatDoor
open Go.RowKit

set_option maxRecDepth 100000 in
set_option maxHeartbeats 2000000 in
theorem readTree [TabC] (v : Value) (xs : List Int) (w : World) (hv : BytesAt w v xs) (ho : Octs xs) (hl : xs.length ≤ 65536) (hT : Tabs w) (y0 : Took) (h0 : Hid (y0 = takeL xs 0 0 0 1 0)) (hk : Hid (y0.n = 2)) (y1 : Took) (h1 : Hid (y1 = takeL xs y0.pl y0.f 1 0 1024)) (n : Nat) (hn : Hid (y1.n.toNat = n)) (es : List EntL) (p q : Nat) (hs : Hid (rdEs xs y1.pl y1.f n = (es, p, q))) (hq4 : q ≤ 4) (hple : p ≤ xs.length) :
    Calls Tryz.prog 34 #[v] w fun e w' => Kept [] w w' ∧ (q = 0 ∧ p = xs.length ∧ faultT es = 0 → ∃ b, e = .returned (.tuple #[.iface 100 (.slice (some ⟨b, 0, none⟩) n n), .int .i64 0]) ∧ RowsIn w' b 127 (es.map EntL.row) ∧ w.heap.size ≤ b) ∧ (¬ (q = 0 ∧ p = xs.length ∧ faultT es = 0) → e = .returned (.tuple #[.nilIface, .int .i64 37])) := by
  have hread := Read_any v xs w hv (by omega) ho
  have HTB : Hid (∀ W, Kept [] w W → Tabs W) := fun W hW => hT.kept hW
  have HU8 : Hid (∀ W r g, Rdr W r g xs 0 0 → Calls Tryz.prog 48 #[.pointer (some ⟨r, 0, none⟩)] W fun e w' => e = .returned (.int .u8 2) ∧ Rdr w' r g xs y0.pl y0.f ∧ Kept [r] W w') := fun W r g q => by
    have h := U8_any q y0 h0
    rw [hk.out] at h
    exact h
  have hel : es.length = n := by have h := rdEs_len xs y1.pl y1.f n; rw [hs.out] at h; exact h
  have hn1024 : n ≤ 1024 := by
    have h := take_var_le xs ho y0.pl y0.f 1024 (by decide)
    have h2 := hn.out
    rw [h1.out] at h2
    omega
  have HGE : Hid (∀ e, e ∈ es → e.Good) := fun e he => rdEs_good xs ho hl y1.pl y1.f n e (by rw [hs.out]; exact he)
  have HRT : Hid (∀ W r g, Rdr W r g xs y0.pl y0.f → Calls Tryz.prog 51 #[.pointer (some ⟨r, 0, none⟩)] W fun e w' => ∃ b, e = .returned (.slice (some ⟨b, 0, none⟩) n n) ∧ RowsIn w' b 127 (es.map EntL.row) ∧ W.heap.size ≤ b ∧ Rdr w' r g xs p q ∧ Kept [r] W w') := fun W r g hW => by
    have h := readTree_any hW y1 h1
    rw [hn.out, hs.out] at h
    exact h
  have HFT : Hid (∀ W b, RowsIn W b 127 (es.map EntL.row) → Kept [] w W → Calls Tryz.prog 127 #[.slice (some ⟨b, 0, none⟩) n n] W fun e w' => e = .returned (.int .i64 (faultT es)) ∧ Kept [] W w') := fun W b hb hW => by
    have h := treeFault_any (.slice (some ⟨b, 0, none⟩) n n) es W (HTB.out W hW) (by have h := EntsAt.of_rows hb HGE.out (by omega); rw [hel] at h; exact h) HGE.out
    exact h
  have HEND : Hid (∀ W r g, Rdr W r g xs p q → Calls Tryz.prog 54 #[.pointer (some ⟨r, 0, none⟩)] W fun e w' => e = .returned (.int .i64 (if q ≠ 0 then errL q else if p < xs.length then 13 else 0)) ∧ ∃ n, w' = W.drewN n) := fun W r g q => End_any q hq4
  have hm1 := meth_tree_fault
  obtain ⟨ev, hev⟩ : ∃ ev : Int, ev = if q ≠ 0 then errL q else if p < xs.length then 13 else 0 := ⟨_, rfl⟩
  rw [← hev] at HEND
  have HEV : Hid (ev = 0 ↔ q = 0 ∧ p = xs.length) := by
    have : ev = 0 ↔ q = 0 ∧ p = xs.length := by
      rw [hev]
      by_cases hq0 : q = 0
      · rw [if_neg (by omega)]
        by_cases hpl : p < xs.length
        · rw [if_pos hpl]; constructor
          · intro h; exact absurd h (by decide)
          · intro h; omega
        · rw [if_neg hpl]; constructor
          · intro _; exact ⟨hq0, by omega⟩
          · intro _; rfl
      · rw [if_pos hq0]; constructor
        · intro h; exact absurd h (errL_ne _ hq0 hq4)
        · intro h; exact absurd h.1 hq0
    exact this
  obtain ⟨fv, hfv⟩ : ∃ fv : Int, fv = faultT es := ⟨_, rfl⟩
  rw [← hfv] at HFT ⊢
  clear hev hfv hT
  have hlx : decide (65536 < (xs.length : Int)) = false := decide_eq_false (by omega)
  obtain ⟨ao, cap, rfl, _⟩ := hv
  by_cases he0 : ev = 0
  · have HPQ := HEV.out.1 he0
    have HPQ : Hid (q = 0 ∧ p = xs.length) := HPQ
    subst he0
    by_cases hf0 : fv = 0
    · have HOK : Hid (q = 0 ∧ p = xs.length ∧ fv = 0) := ⟨HPQ.out.1, HPQ.out.2, hf0⟩
      subst hf0
      clear HEV HPQ
      go_enter Tryz.func34, Tryz.ntmps34
      go_wp2_with (first
        | (go_at_call 47; refine hread.mono ?_; rintro e w1 ⟨r, g, rfl, hr1, hk1, hrs, hgs⟩
           have HR1 : Hid (Rdr w1 r g xs 0 0) := hr1
           have HK1 : Hid (Kept [] w w1) := hk1
           clear hr1 hk1)
        | (go_at_call 48; refine (HU8.out _ r g HR1.out).mono ?_; rintro e w2 ⟨rfl, hr2, hk2⟩
           have HR2 : Hid (Rdr w2 r g xs y0.pl y0.f) := hr2
           have HK2 : Hid (Kept [] w w2) := kept_new HK1.out hk2 hrs
           clear hr2 hk2)
        | (go_at_call 51; refine (HRT.out _ r g HR2.out).mono ?_; rintro e w3 ⟨b2, rfl, hrow3, hb3, hr3, hk3⟩
           have HR3 : Hid (Rdr w3 r g xs p q) := hr3
           have HW3 : Hid (RowsIn w3 b2 127 (es.map EntL.row)) := hrow3
           have HB5 : Hid (w.heap.size ≤ b2) := Nat.le_trans HK2.out.size hb3
           have HK3 : Hid (Kept [] w w3) := kept_new HK2.out hk3 hrs
           clear hr3 hrow3 hb3 hk3)
        | (go_at_call 54; refine (HEND.out _ r g HR3.out).mono ?_; rintro e w4 ⟨rfl, n4, rfl⟩
           have HK4 : Hid (Kept [] w (w3.drewN n4)) := HK3.out.drewN n4
           have HW4 : Hid (RowsIn (w3.drewN n4) b2 127 (es.map EntL.row)) := HW3.out.kept (T := []) ((Kept.refl _ _).drewN n4) (by simp))
        | (go_at_call 127; refine (HFT.out _ b2 HW4.out HK4.out).mono ?_; rintro e w5 ⟨rfl, hk5⟩
           have HK5 : Hid (Kept [] w w5) := HK4.out.then hk5
           have HR5 : Hid (RowsIn w5 b2 127 (es.map EntL.row)) := HW4.out.kept hk5 (by simp)
           clear hk5))
      refine bodyPost_ret (v := .tuple #[.iface 100 (.slice (some ⟨b2, 0, none⟩) n n), .int .i64 0]) (by simp [results, Tryz.results34, go_sem]) rfl ⟨HK5.out, fun _ => ⟨b2, rfl, HR5.out, HB5.out⟩, fun h => absurd HOK.out h⟩
    · have HNO : Hid (¬ (q = 0 ∧ p = xs.length ∧ fv = 0)) := fun h => hf0 h.2.2
      have hne : (fv != 0) = true := bne_iff_ne.2 hf0
      clear HEV HPQ hf0
      go_enter Tryz.func34, Tryz.ntmps34
      go_wp2_with (first
        | (go_at_call 47; refine hread.mono ?_; rintro e w1 ⟨r, g, rfl, hr1, hk1, hrs, hgs⟩
           have HR1 : Hid (Rdr w1 r g xs 0 0) := hr1
           have HK1 : Hid (Kept [] w w1) := hk1
           clear hr1 hk1)
        | (go_at_call 48; refine (HU8.out _ r g HR1.out).mono ?_; rintro e w2 ⟨rfl, hr2, hk2⟩
           have HR2 : Hid (Rdr w2 r g xs y0.pl y0.f) := hr2
           have HK2 : Hid (Kept [] w w2) := kept_new HK1.out hk2 hrs
           clear hr2 hk2)
        | (go_at_call 51; refine (HRT.out _ r g HR2.out).mono ?_; rintro e w3 ⟨b2, rfl, hrow3, hb3, hr3, hk3⟩
           have HR3 : Hid (Rdr w3 r g xs p q) := hr3
           have HW3 : Hid (RowsIn w3 b2 127 (es.map EntL.row)) := hrow3
           have HB5 : Hid (w.heap.size ≤ b2) := Nat.le_trans HK2.out.size hb3
           have HK3 : Hid (Kept [] w w3) := kept_new HK2.out hk3 hrs
           clear hr3 hrow3 hb3 hk3)
        | (go_at_call 54; refine (HEND.out _ r g HR3.out).mono ?_; rintro e w4 ⟨rfl, n4, rfl⟩
           have HK4 : Hid (Kept [] w (w3.drewN n4)) := HK3.out.drewN n4
           have HW4 : Hid (RowsIn (w3.drewN n4) b2 127 (es.map EntL.row)) := HW3.out.kept (T := []) ((Kept.refl _ _).drewN n4) (by simp))
        | (go_at_call 127; refine (HFT.out _ b2 HW4.out HK4.out).mono ?_; rintro e w5 ⟨rfl, hk5⟩
           have HK5 : Hid (Kept [] w w5) := HK4.out.then hk5
           have HR5 : Hid (RowsIn w5 b2 127 (es.map EntL.row)) := HW4.out.kept hk5 (by simp)
           clear hk5))
      refine bodyPost_ret (v := .tuple #[.nilIface, .int .i64 37]) (by simp [results, Tryz.results34, go_sem]) rfl ⟨HK5.out, fun h => absurd h HNO.out, fun _ => rfl⟩
  · have HNO : Hid (¬ (q = 0 ∧ p = xs.length ∧ fv = 0)) := fun h => he0 (HEV.out.2 ⟨h.1, h.2.1⟩)
    have hne : (ev != 0) = true := bne_iff_ne.2 he0
    clear HEV he0
    go_enter Tryz.func34, Tryz.ntmps34
    go_wp2_with (first
        | (go_at_call 47; refine hread.mono ?_; rintro e w1 ⟨r, g, rfl, hr1, hk1, hrs, hgs⟩
           have HR1 : Hid (Rdr w1 r g xs 0 0) := hr1
           have HK1 : Hid (Kept [] w w1) := hk1
           clear hr1 hk1)
        | (go_at_call 48; refine (HU8.out _ r g HR1.out).mono ?_; rintro e w2 ⟨rfl, hr2, hk2⟩
           have HR2 : Hid (Rdr w2 r g xs y0.pl y0.f) := hr2
           have HK2 : Hid (Kept [] w w2) := kept_new HK1.out hk2 hrs
           clear hr2 hk2)
        | (go_at_call 51; refine (HRT.out _ r g HR2.out).mono ?_; rintro e w3 ⟨b2, rfl, hrow3, hb3, hr3, hk3⟩
           have HR3 : Hid (Rdr w3 r g xs p q) := hr3
           have HW3 : Hid (RowsIn w3 b2 127 (es.map EntL.row)) := hrow3
           have HB5 : Hid (w.heap.size ≤ b2) := Nat.le_trans HK2.out.size hb3
           have HK3 : Hid (Kept [] w w3) := kept_new HK2.out hk3 hrs
           clear hr3 hrow3 hb3 hk3)
        | (go_at_call 54; refine (HEND.out _ r g HR3.out).mono ?_; rintro e w4 ⟨rfl, n4, rfl⟩
           have HK4 : Hid (Kept [] w (w3.drewN n4)) := HK3.out.drewN n4
           have HW4 : Hid (RowsIn (w3.drewN n4) b2 127 (es.map EntL.row)) := HW3.out.kept (T := []) ((Kept.refl _ _).drewN n4) (by simp))
        | (go_at_call 127; refine (HFT.out _ b2 HW4.out HK4.out).mono ?_; rintro e w5 ⟨rfl, hk5⟩
           have HK5 : Hid (Kept [] w w5) := HK4.out.then hk5
           have HR5 : Hid (RowsIn w5 b2 127 (es.map EntL.row)) := HW4.out.kept hk5 (by simp)
           clear hk5))
    refine bodyPost_ret (v := .tuple #[.nilIface, .int .i64 37]) (by simp [results, Tryz.results34, go_sem]) rfl ⟨HK4.out, fun h => absurd h HNO.out, fun _ => rfl⟩
end Go.Proofs.YtddhhjgegkkjbaaGreatDoor

namespace Go.Proofs.YtddhhjgegkkjbaaGreatDoor
open Go.RowKit

set_option maxRecDepth 100000 in
set_option maxHeartbeats 2000000 in
theorem readTag [TabC] (v : Value) (xs : List Int) (w : World) (hv : BytesAt w v xs) (ho : Octs xs) (hl : xs.length ≤ 65536) (hT : Tabs w) (y0 : Took) (h0 : Hid (y0 = takeL xs 0 0 0 1 0)) (hk : Hid (y0.n = 4)) (y1 y2 y3 y4 y5 y6 : Took) (h1 : Hid (y1 = takeL xs y0.pl y0.f 3 32 0)) (h2 : Hid (y2 = takeL xs y1.pl y1.f 0 1 0)) (h3 : Hid (y3 = takeL xs y2.pl y2.f 2 0 255)) (h4 : Hid (y4 = takeL xs y3.pl y3.f 2 0 255)) (h5 : Hid (y5 = takeL xs y4.pl y4.f 0 8 0)) (h6 : Hid (y6 = takeL xs y5.pl y5.f 2 0 4096)) (tg : TagL) (htg : Hid (tg = ⟨idOf y1.text, y2.n, y3.text, y4.text, y5.n, y6.text⟩)) (hq4 : y6.f ≤ 4) (hple : y6.pl ≤ xs.length) :
    Calls Tryz.prog 34 #[v] w fun e w' => Kept [] w w' ∧ (y6.f = 0 ∧ y6.pl = xs.length ∧ faultG tg = 0 → e = .returned (.tuple #[.iface 104 (.agg tg.row.toArray), .int .i64 0])) ∧ (¬ (y6.f = 0 ∧ y6.pl = xs.length ∧ faultG tg = 0) → e = .returned (.tuple #[.nilIface, .int .i64 37])) := by
  have hread := Read_any v xs w hv (by omega) ho
  have HTB : Hid (∀ W, Kept [] w W → Tabs W) := fun W hW => hT.kept hW
  have HU8 : Hid (∀ W r g, Rdr W r g xs 0 0 → Calls Tryz.prog 48 #[.pointer (some ⟨r, 0, none⟩)] W fun e w' => e = .returned (.int .u8 4) ∧ Rdr w' r g xs y0.pl y0.f ∧ Kept [r] W w') := fun W r g q => by
    have h := U8_any q y0 h0
    rw [hk.out] at h
    exact h
  have HGT : Hid (tg.Good) := by
    rw [htg.out]
    have b2 := take_lt xs ho y1.pl y1.f 1
    have b5 := take_lt xs ho y4.pl y4.f 8
    have c2 : 0 ≤ y2.n ∧ y2.n < 256 := by rw [h2.out]; exact b2
    have c5 : 0 ≤ y5.n ∧ y5.n < 18446744073709551616 := by rw [h5.out]; exact b5
    exact ⟨idOf_good (by rw [h1.out]; exact take_octs xs ho _ _ _ _ _) (by rw [h1.out]; exact raw32_len _ _ _), by show -9223372036854775808 ≤ y2.n; omega, by show y2.n ≤ 9223372036854775807; omega, by rw [h3.out]; exact take_text_good xs ho hl _ _ _ _ _, by rw [h4.out]; exact take_text_good xs ho hl _ _ _ _ _, c5.1, by show y5.n ≤ 18446744073709551615; omega, by rw [h6.out]; exact take_text_good xs ho hl _ _ _ _ _⟩
  have HRT : Hid (∀ W r g, Rdr W r g xs y0.pl y0.f → Calls Tryz.prog 53 #[.pointer (some ⟨r, 0, none⟩)] W fun e w' => e = .returned (.agg tg.row.toArray) ∧ Rdr w' r g xs y6.pl y6.f ∧ Kept [r] W w') := fun W r g hW => by
    have h := readTag_any hW y1 y2 y3 y4 y5 y6 h1 h2 h3 h4 h5 h6
    rw [htg.out]
    exact h
  have HFT : Hid (∀ W, Kept [] w W → Calls Tryz.prog 149 #[.agg tg.row.toArray] W fun e w' => e = .returned (.int .i64 (faultG tg)) ∧ Kept [] W w') := fun W hW => tagFault_any tg W (HTB.out W hW) HGT.out
  have HEND : Hid (∀ W r g, Rdr W r g xs y6.pl y6.f → Calls Tryz.prog 54 #[.pointer (some ⟨r, 0, none⟩)] W fun e w' => e = .returned (.int .i64 (if y6.f ≠ 0 then errL y6.f else if y6.pl < xs.length then 13 else 0)) ∧ ∃ n, w' = W.drewN n) := fun W r g q => End_any q hq4
  have hm1 := meth_tag_fault
  obtain ⟨ev, hev⟩ : ∃ ev : Int, ev = if y6.f ≠ 0 then errL y6.f else if y6.pl < xs.length then 13 else 0 := ⟨_, rfl⟩
  rw [← hev] at HEND
  have HEV : Hid (ev = 0 ↔ y6.f = 0 ∧ y6.pl = xs.length) := by
    have : ev = 0 ↔ y6.f = 0 ∧ y6.pl = xs.length := by
      rw [hev]
      by_cases hq0 : y6.f = 0
      · rw [if_neg (by omega)]
        by_cases hpl : y6.pl < xs.length
        · rw [if_pos hpl]; constructor
          · intro h; exact absurd h (by decide)
          · intro h; omega
        · rw [if_neg hpl]; constructor
          · intro _; exact ⟨hq0, by omega⟩
          · intro _; rfl
      · rw [if_pos hq0]; constructor
        · intro h; exact absurd h (errL_ne _ hq0 hq4)
        · intro h; exact absurd h.1 hq0
    exact this
  obtain ⟨fv, hfv⟩ : ∃ fv : Int, fv = faultG tg := ⟨_, rfl⟩
  rw [← hfv] at HFT ⊢
  clear hev hfv hT
  have hlx : decide (65536 < (xs.length : Int)) = false := decide_eq_false (by omega)
  obtain ⟨ao, cap, rfl, _⟩ := hv
  by_cases he0 : ev = 0
  · have HPQ := HEV.out.1 he0
    have HPQ : Hid (y6.f = 0 ∧ y6.pl = xs.length) := HPQ
    subst he0
    by_cases hf0 : fv = 0
    · have HOK : Hid (y6.f = 0 ∧ y6.pl = xs.length ∧ fv = 0) := ⟨HPQ.out.1, HPQ.out.2, hf0⟩
      subst hf0
      clear HEV HPQ
      go_enter Tryz.func34, Tryz.ntmps34
      go_wp2_with (first
        | (go_at_call 47; refine hread.mono ?_; rintro e w1 ⟨r, g, rfl, hr1, hk1, hrs, hgs⟩
           have HR1 : Hid (Rdr w1 r g xs 0 0) := hr1
           have HK1 : Hid (Kept [] w w1) := hk1
           clear hr1 hk1)
        | (go_at_call 48; refine (HU8.out _ r g HR1.out).mono ?_; rintro e w2 ⟨rfl, hr2, hk2⟩
           have HR2 : Hid (Rdr w2 r g xs y0.pl y0.f) := hr2
           have HK2 : Hid (Kept [] w w2) := kept_new HK1.out hk2 hrs
           clear hr2 hk2)
        | (go_at_call 53; refine (HRT.out _ r g HR2.out).mono ?_; rintro e w3 ⟨rfl, hr3, hk3⟩
           have HR3 : Hid (Rdr w3 r g xs y6.pl y6.f) := hr3
           have HK3 : Hid (Kept [] w w3) := kept_new HK2.out hk3 hrs
           clear hr3 hk3)
        | (go_at_call 54; refine (HEND.out _ r g HR3.out).mono ?_; rintro e w4 ⟨rfl, n4, rfl⟩
           have HK4 : Hid (Kept [] w (w3.drewN n4)) := HK3.out.drewN n4
           skip)
        | (go_at_call 149; refine (HFT.out _ HK4.out).mono ?_; rintro e w5 ⟨rfl, hk5⟩
           have HK5 : Hid (Kept [] w w5) := HK4.out.then hk5
           clear hk5))
      refine bodyPost_ret (v := .tuple #[.iface 104 (.agg tg.row.toArray), .int .i64 0]) (by simp [results, Tryz.results34, go_sem]) rfl ⟨HK5.out, fun _ => rfl, fun h => absurd HOK.out h⟩
    · have HNO : Hid (¬ (y6.f = 0 ∧ y6.pl = xs.length ∧ fv = 0)) := fun h => hf0 h.2.2
      have hne : (fv != 0) = true := bne_iff_ne.2 hf0
      clear HEV HPQ hf0
      go_enter Tryz.func34, Tryz.ntmps34
      go_wp2_with (first
        | (go_at_call 47; refine hread.mono ?_; rintro e w1 ⟨r, g, rfl, hr1, hk1, hrs, hgs⟩
           have HR1 : Hid (Rdr w1 r g xs 0 0) := hr1
           have HK1 : Hid (Kept [] w w1) := hk1
           clear hr1 hk1)
        | (go_at_call 48; refine (HU8.out _ r g HR1.out).mono ?_; rintro e w2 ⟨rfl, hr2, hk2⟩
           have HR2 : Hid (Rdr w2 r g xs y0.pl y0.f) := hr2
           have HK2 : Hid (Kept [] w w2) := kept_new HK1.out hk2 hrs
           clear hr2 hk2)
        | (go_at_call 53; refine (HRT.out _ r g HR2.out).mono ?_; rintro e w3 ⟨rfl, hr3, hk3⟩
           have HR3 : Hid (Rdr w3 r g xs y6.pl y6.f) := hr3
           have HK3 : Hid (Kept [] w w3) := kept_new HK2.out hk3 hrs
           clear hr3 hk3)
        | (go_at_call 54; refine (HEND.out _ r g HR3.out).mono ?_; rintro e w4 ⟨rfl, n4, rfl⟩
           have HK4 : Hid (Kept [] w (w3.drewN n4)) := HK3.out.drewN n4
           skip)
        | (go_at_call 149; refine (HFT.out _ HK4.out).mono ?_; rintro e w5 ⟨rfl, hk5⟩
           have HK5 : Hid (Kept [] w w5) := HK4.out.then hk5
           clear hk5))
      refine bodyPost_ret (v := .tuple #[.nilIface, .int .i64 37]) (by simp [results, Tryz.results34, go_sem]) rfl ⟨HK5.out, fun h => absurd h HNO.out, fun _ => rfl⟩
  · have HNO : Hid (¬ (y6.f = 0 ∧ y6.pl = xs.length ∧ fv = 0)) := fun h => he0 (HEV.out.2 ⟨h.1, h.2.1⟩)
    have hne : (ev != 0) = true := bne_iff_ne.2 he0
    clear HEV he0
    go_enter Tryz.func34, Tryz.ntmps34
    go_wp2_with (first
        | (go_at_call 47; refine hread.mono ?_; rintro e w1 ⟨r, g, rfl, hr1, hk1, hrs, hgs⟩
           have HR1 : Hid (Rdr w1 r g xs 0 0) := hr1
           have HK1 : Hid (Kept [] w w1) := hk1
           clear hr1 hk1)
        | (go_at_call 48; refine (HU8.out _ r g HR1.out).mono ?_; rintro e w2 ⟨rfl, hr2, hk2⟩
           have HR2 : Hid (Rdr w2 r g xs y0.pl y0.f) := hr2
           have HK2 : Hid (Kept [] w w2) := kept_new HK1.out hk2 hrs
           clear hr2 hk2)
        | (go_at_call 53; refine (HRT.out _ r g HR2.out).mono ?_; rintro e w3 ⟨rfl, hr3, hk3⟩
           have HR3 : Hid (Rdr w3 r g xs y6.pl y6.f) := hr3
           have HK3 : Hid (Kept [] w w3) := kept_new HK2.out hk3 hrs
           clear hr3 hk3)
        | (go_at_call 54; refine (HEND.out _ r g HR3.out).mono ?_; rintro e w4 ⟨rfl, n4, rfl⟩
           have HK4 : Hid (Kept [] w (w3.drewN n4)) := HK3.out.drewN n4
           skip)
        | (go_at_call 149; refine (HFT.out _ HK4.out).mono ?_; rintro e w5 ⟨rfl, hk5⟩
           have HK5 : Hid (Kept [] w w5) := HK4.out.then hk5
           clear hk5))
    refine bodyPost_ret (v := .tuple #[.nilIface, .int .i64 37]) (by simp [results, Tryz.results34, go_sem]) rfl ⟨HK4.out, fun h => absurd h HNO.out, fun _ => rfl⟩
end Go.Proofs.YtddhhjgegkkjbaaGreatDoor
