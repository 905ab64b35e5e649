/-
  WALK: slices.CompactFunc at stamps: of neighbours of one name the first.
-/
import Derived.Test.YtmjbaficdoehfaaMg4
import Derived.Test.YtmjbaficdoehfaaSliS
namespace Go.Proofs.Ytmjbaficdoehfaa
open Go.RowKit Go.Sort

def zeroS : StampE := default
theorem zeroStampV (w : World) : (zeroValue 32).run Try.prog w = .ok (.agg zeroS.row.toArray) w := Try.zeroValue32 w
theorem Try.zeroStampI : (Try.prog.info? 32).map (fun i => (i.zero, i.size, i.bytes)) = some (some (.agg zeroS.row.toArray), 34, 56) := by kernel_rfl
set_option maxRecDepth 100000 in
set_option maxHeartbeats 4000000 in
theorem Compact_any {w : World} {B : Nat} {v : Value} {L : List StampE} (hown : StampOwn w B v L) (hl : L.length ≤ 10000000) :
    Calls Try.prog 13 #[v, .func (.func 14) #[] #[]] w fun e w' => ∃ v', e = .returned v' ∧ StampOwn w' B v' (compN L) ∧ Kept v.ownBlock.toList w w' := by
  have has := Try.underlying32
  by_cases hn : L.length < 2
  · have t1 : decide ((L.length : Int) < 2) = true := by simp; omega
    have HV : Hid (StampOwn w B v (compN L)) := by
      have h : StampOwn w B v (compN L) := by rw [compN_one (by omega)]; exact hown
      exact h
    have hf : ∃ p cap, v = .slice p L.length cap := by
      rcases hown.form with ⟨h1, h2⟩ | ⟨g, cap, _, h2, _⟩
      · exact ⟨none, 0, by rw [h2, h1]; rfl⟩
      · exact ⟨_, cap, h2⟩
    obtain ⟨p, cap, rfl⟩ := hf
    clear hown
    go_enter Try.func13, Try.ntmps13
    go_wp2
    go_ret
    exact ⟨_, rfl, HV.out, Kept.refl _ _⟩
  have hf : ∃ g cap, v = .slice (some ⟨g, 0, none⟩) L.length cap := by
    rcases hown.form with ⟨h1, h2⟩ | ⟨g, cap, _, h2, _⟩
    · rw [h1] at hn; exact absurd (by decide) hn
    · exact ⟨g, cap, h2⟩
  obtain ⟨g, cap, rfl⟩ := hf
  obtain ⟨hmem, hB, hcm⟩ := hown.mem
  have HM : Hid (CMem w g cap L) := hmem
  have hgl : g < w.heap.size := by obtain ⟨cur, hg, _⟩ := hmem; exact lt_of_block hg
  have hcap : L.length ≤ cap := by obtain ⟨cur, hg, _, hc, _⟩ := hmem; exact hc
  have hmax : maxLen = 9223372036854775807 := by decide
  have HB : Hid (B ≤ g ∧ cap ≤ maxLen) := ⟨hB, hcm⟩
  have t1 : decide ((L.length : Int) < 2) = false := by simp; omega
  have t1' : ¬ L.length < 2 := hn
  have hcm2 : cap ≤ 9223372036854775807 := hmax ▸ hcm
  clear hown hmem hB hcm
  go_enter Try.func13, Try.ntmps13
  go_wp2
  go_loopw [5] (fun s5 wr => ∃ j : Nat, j + 1 ≤ L.length ∧ s5 = .int .i64 ((j : Int) + 1) ∧ Hid (compN (L.take (j + 1)) = L.take (j + 1) ∧ Gr w wr)) (fun s5 _ => L.length - (intOf s5).toNat)
  case atStart => exact ⟨0, by omega, rfl, compN_one (by rw [List.length_take]; omega), Gr.refl w⟩
  case round =>
    obtain ⟨j, hj, rfl, HI⟩ := hrel
    by_cases hlt : j + 1 < L.length
    · have i0 : (j : Int) + 1 < (L.length : Int) := by omega
      have i1 : (0 : Int) ≤ (j : Int) + 1 := by omega
      have i2 : (j : Int) < (L.length : Int) := by omega
      have i3 : (0 : Int) ≤ (j : Int) := by omega
      have t2 : decide ((j : Int) + 1 < (L.length : Int)) = true := decide_eq_true i0
      have wj : IntKind.i64.wrap (j : Int) = j := by rw [IntKind.wrap_i64]; omega
      obtain ⟨x, hx⟩ : ∃ x, L[j]? = some x := ⟨_, List.getElem?_eq_getElem (by omega)⟩
      obtain ⟨z, hz⟩ : ∃ z, L[j + 1]? = some z := ⟨_, List.getElem?_eq_getElem hlt⟩
      have hsx : (Try.prog.info? 32).map (·.size) = some x.row.length := by rw [x.row_len]; exact stampSize
      have hsz : (Try.prog.info? 32).map (·.size) = some z.row.length := by rw [z.row_len]; exact stampSize
      have HRx : Hid (∀ W, Gr wr W → W.rangeAt g (j * 34) x.row) := fun W k => (HM.out.kept (HI.out.2.trans k).kept (by simp)).range j x hx
      have HRz : Hid (∀ W, Gr wr W → W.rangeAt g ((j + 1) * 34) z.row) := fun W k => (HM.out.kept (HI.out.2.trans k).kept (by simp)).range (j + 1) z hz
      have HCL0 : Hid (∀ W, Gr wr W → Calls Try.prog 14 #[.agg z.row.toArray, .agg x.row.toArray] W fun e w' => e = .returned (.bool (decide (z.name = x.name))) ∧ Gr wr w') := fun W k => (oneName_any z x W).mono fun e w' ⟨h1, h2⟩ => ⟨h1, k.trans h2⟩
      have HST : Hid (compN (L.take (j + 2)) = compN (L.take (j + 1)) ++ (if z.name = x.name then [] else [z])) := compN_step hx hz
      have HTK : Hid (L.take (j + 2) = L.take (j + 1) ++ [z]) := by
        have h : L.take (j + 2) = L.take (j + 1) ++ [z] := by rw [show j + 2 = (j + 1) + 1 from rfl, List.take_add_one, hz]; rfl
        exact h
      have HXZ : Hid (L[j]? = some x ∧ L[j + 1]? = some z) := ⟨hx, hz⟩
      clear hx hz
      by_cases hnm : z.name = x.name
      · have HCL : Hid (∀ W, Gr wr W → Calls Try.prog 14 #[.agg z.row.toArray, .agg x.row.toArray] W fun e w' => e = .returned (.bool true) ∧ Gr wr w') := by
          have h := HCL0.out
          rw [decide_eq_true hnm] at h
          exact h
        have HS1 : Hid (compN (L.take (j + 2)) = L.take (j + 1)) := by
          have h : compN (L.take (j + 2)) = L.take (j + 1) := by rw [HST.out, if_pos hnm, List.append_nil, HI.out.1]
          exact h
        clear HCL0 HST HTK hnm
        generalize x.row = xr at *
        generalize z.row = zr at *
        go_wp2_with fail
        refine region_quiet (Gr wr) (by kernel_rfl) (by kernel_rfl) (Gr.refl wr).drew ?_
        with_reducible refine wpQuiet_step ?_
        intro K hK
        rw [if_pos (by kernel_rfl)]
        refine move_at (.tmp 1) rfl (.func (.func 14) #[] #[]) rfl (hK _ ?_)
        clear hK K
        simp only [Act.put, List.setIfInBounds_toArray, List.set_cons_zero, List.set_cons_succ]
        with_reducible refine wpQuiet_step ?_
        intro K hK
        rw [if_pos (by kernel_rfl)]
        refine move_at (.tmp 0) rfl (.slice (some ⟨g, 0, none⟩) L.length cap) rfl (hK _ ?_)
        clear hK K
        simp only [Act.put, List.setIfInBounds_toArray, List.set_cons_zero, List.set_cons_succ]
        with_reducible refine wpQuiet_step ?_
        intro K hK
        rw [if_pos (by kernel_rfl)]
        refine move_at (.tmp 5) rfl (.int .i64 ((j : Int) + 1)) rfl (hK _ ?_)
        clear hK K
        simp only [Act.put, List.setIfInBounds_toArray, List.set_cons_zero, List.set_cons_succ]
        with_reducible refine wpQuiet_step ?_
        intro K hK
        rw [if_pos (by kernel_rfl)]
        refine val_at (.pointer (some ⟨g, (j + 1) * 34, none⟩)) (fun W => by go_simp) (hK _ ?_)
        clear hK K
        simp only [Act.put, List.setIfInBounds_toArray, List.set_cons_zero, List.set_cons_succ]
        with_reducible refine wpQuiet_step ?_
        intro K hK
        rw [if_pos (by kernel_rfl)]
        refine row_at 32 (.tmp 21) rfl g ((j + 1) * 34) rfl zr _ HRz.out has rfl hsz (hK _ ?_)
        clear hK K
        simp only [Act.put, List.setIfInBounds_toArray, List.set_cons_zero, List.set_cons_succ]
        with_reducible refine wpQuiet_step ?_
        intro K hK
        rw [if_pos (by kernel_rfl)]
        refine move_at (.tmp 0) rfl (.slice (some ⟨g, 0, none⟩) L.length cap) rfl (hK _ ?_)
        clear hK K
        simp only [Act.put, List.setIfInBounds_toArray, List.set_cons_zero, List.set_cons_succ]
        with_reducible refine wpQuiet_step ?_
        intro K hK
        rw [if_pos (by kernel_rfl)]
        refine move_at (.tmp 5) rfl (.int .i64 ((j : Int) + 1)) rfl (hK _ ?_)
        clear hK K
        simp only [Act.put, List.setIfInBounds_toArray, List.set_cons_zero, List.set_cons_succ]
        with_reducible refine wpQuiet_step ?_
        intro K hK
        rw [if_pos (by kernel_rfl)]
        refine val_at (.int .i64 (j : Int)) (fun W => by go_simp) (hK _ ?_)
        clear hK K
        simp only [Act.put, List.setIfInBounds_toArray, List.set_cons_zero, List.set_cons_succ]
        with_reducible refine wpQuiet_step ?_
        intro K hK
        rw [if_pos (by kernel_rfl)]
        refine val_at (.pointer (some ⟨g, j * 34, none⟩)) (fun W => by go_simp) (hK _ ?_)
        clear hK K
        simp only [Act.put, List.setIfInBounds_toArray, List.set_cons_zero, List.set_cons_succ]
        with_reducible refine wpQuiet_step ?_
        intro K hK
        rw [if_pos (by kernel_rfl)]
        refine row_at 32 (.tmp 26) rfl g (j * 34) rfl xr _ HRx.out has rfl hsx (hK _ ?_)
        clear hK K
        simp only [Act.put, List.setIfInBounds_toArray, List.set_cons_zero, List.set_cons_succ]
        with_reducible refine wpQuiet_step ?_
        intro K hK
        rw [if_pos (by kernel_rfl)]
        refine call_at 14 #[.agg zr.toArray, .agg xr.toArray] (.bool true) (fun W => by go_simp) HCL.out (hK _ ?_)
        clear hK K
        simp only [Act.put, List.setIfInBounds_toArray, List.set_cons_zero, List.set_cons_succ]
        refine wpQuiet_nil fun w3 hk3 => ?_
        have HG3 : Hid (Gr w w3) := HI.out.2.trans hk3
        clear hk3 HRx HRz HCL
        have hsl : (sizeOf 32).run Try.prog w3 = .ok 34 w3 := Try.sizeOf32 w3
        go_wp2_with (refine wpList_from (by rfl) 22 34 (by kernel_rfl) (by exact hsl) (.tmp 29) (.tmp 30) (by rfl) g 0 L.length cap (by rfl) (j + 1) ((j : Int) + 1) (by omega) (by rfl) (by omega) (by omega) ?_; rw [Nat.zero_add])
        have HB0 : Hid (CMem w3 g cap L ∧ Kept [g] w w3) := ⟨HM.out.kept HG3.out.kept (by simp), (Kept.refl [g] w).trans HG3.out.kept (by simp)⟩
        clear HI wj i0 i1 i2 i3 t2 has
        go_loopw [5, 7] (fun s5 s7 wr => ∃ (p q : Nat) (R : List StampE), R.length = L.length ∧ p ≤ j + 1 + q ∧ j + 2 + q ≤ L.length ∧ s5 = .int .i64 p ∧ s7 = .int .i64 ((q : Int) + 1) ∧ Hid (R.take p = compN (L.take (j + 2 + q)) ∧ R.drop (j + 1 + q) = L.drop (j + 1 + q) ∧ CMem wr g cap R ∧ Kept [g] w wr)) (fun _ s7 _ => L.length - (intOf s7).toNat)
        case atStart => exact ⟨j + 1, 0, L, rfl, by omega, by omega, by go_num, rfl, HS1.out.symm, rfl, HB0.out.1, HB0.out.2⟩
        case round =>
          obtain ⟨p, q, R, hRl, hp, hq, rfl, rfl, HI⟩ := hrel
          by_cases hlt2 : j + 2 + q < L.length
          · have i0 : (q : Int) + 1 < ((L.length - (j + 1) : Nat) : Int) := by omega
            have i1 : (0 : Int) ≤ (q : Int) + 1 := by omega
            have i2 : (q : Int) < ((L.length - (j + 1) : Nat) : Int) := by omega
            have i3 : (0 : Int) ≤ (q : Int) := by omega
            have t2 : decide ((q : Int) + 1 < ((L.length - (j + 1) : Nat) : Int)) = true := decide_eq_true i0
            have wq : IntKind.i64.wrap (q : Int) = q := by rw [IntKind.wrap_i64]; omega
            have wq2 : IntKind.i64.wrap ((q : Int) + 1 + 1) = (q : Int) + 1 + 1 := by rw [IntKind.wrap_i64]; omega
            have wp : IntKind.i64.wrap ((p : Int) + 1) = (p : Int) + 1 := by rw [IntKind.wrap_i64]; omega
            have p0 : (0 : Int) ≤ (p : Int) := by omega
            have p1 : (p : Int) < (L.length : Int) := by omega
            obtain ⟨x, hx⟩ : ∃ x, L[j + 1 + q]? = some x := ⟨_, List.getElem?_eq_getElem (by omega)⟩
            obtain ⟨z, hz⟩ : ∃ z, L[j + 1 + q + 1]? = some z := ⟨_, List.getElem?_eq_getElem (by omega)⟩
            have hdr : ∀ i, R[j + 1 + q + i]? = L[j + 1 + q + i]? := fun i => by rw [← List.getElem?_drop, ← List.getElem?_drop, HI.out.2.1]
            have hsx : (Try.prog.info? 32).map (·.size) = some x.row.length := by rw [x.row_len]; exact stampSize
            have hsz : (Try.prog.info? 32).map (·.size) = some z.row.length := by rw [z.row_len]; exact stampSize
            have hsz2 : (Try.prog.info? 32).map (·.size) = some z.row.toArray.size := by rw [List.size_toArray, z.row_len]; exact stampSize
            have hoz : z.row.toArray.all (·.oneCell') = true := all_oneCell_toArray z.row_one
            have hz34 : z.row.toArray.size = 34 := by rw [List.size_toArray, z.row_len]
            have HRx : Hid (∀ W, Gr wr W → W.rangeAt g ((j + 1) * 34 + q * 34) x.row) := fun W k => by
              have h := (HI.out.2.2.1.kept k.kept (by simp)).range (j + 1 + q) x (by have := hdr 0; rw [Nat.add_zero] at this; rw [this]; exact hx)
              rwa [Nat.add_mul] at h
            have HRz : Hid (∀ W, Gr wr W → W.rangeAt g ((j + 1) * 34 + (q + 1) * 34) z.row) := fun W k => by
              have h := (HI.out.2.2.1.kept k.kept (by simp)).range (j + 1 + (q + 1)) z (by have := hdr 1; rw [show j + 1 + (q + 1) = j + 1 + q + 1 from rfl, this]; exact hz)
              rwa [Nat.add_mul (j + 1) (q + 1)] at h
            have HCL0 : Hid (∀ W, Gr wr W → Calls Try.prog 14 #[.agg z.row.toArray, .agg x.row.toArray] W fun e w' => e = .returned (.bool (decide (z.name = x.name))) ∧ Gr wr w') := fun W k => (oneName_any z x W).mono fun e w' ⟨h1, h2⟩ => ⟨h1, k.trans h2⟩
            have HST : Hid (compN (L.take (j + 2 + (q + 1))) = compN (L.take (j + 2 + q)) ++ (if z.name = x.name then [] else [z])) := by
              have h := compN_step hx hz
              rw [show j + 1 + q + 2 = j + 2 + (q + 1) by omega, show j + 1 + q + 1 = j + 2 + q by omega] at h
              exact h
            have HDR : Hid (R.drop (j + 1 + (q + 1)) = L.drop (j + 1 + (q + 1))) := by
              have h := congrArg (List.drop 1) HI.out.2.1
              rw [List.drop_drop, List.drop_drop] at h
              exact h
            clear hx hz hdr
            have has := Try.underlying32
            by_cases hnm : z.name = x.name
            · have HCL : Hid (∀ W, Gr wr W → Calls Try.prog 14 #[.agg z.row.toArray, .agg x.row.toArray] W fun e w' => e = .returned (.bool true) ∧ Gr wr w') := by
                have h := HCL0.out
                rw [decide_eq_true hnm] at h
                exact h
              have HS2 : Hid (R.take p = compN (L.take (j + 2 + (q + 1)))) := by
                have h : R.take p = compN (L.take (j + 2 + (q + 1))) := by rw [HST.out, if_pos hnm, List.append_nil, HI.out.1]
                exact h
              clear HCL0 HST hnm hz34 hoz hsz2
              generalize x.row = xr at *
              generalize z.row = zr at *
              go_wp2_with fail
              refine region_quiet (Gr wr) (by kernel_rfl) (by kernel_rfl) (Gr.refl wr).drew ?_
              with_reducible refine wpQuiet_step ?_
              intro K hK
              rw [if_pos (by kernel_rfl)]
              refine move_at (.tmp 1) rfl (.func (.func 14) #[] #[]) rfl (hK _ ?_)
              clear hK K
              simp only [Act.put, List.setIfInBounds_toArray, List.set_cons_zero, List.set_cons_succ]
              with_reducible refine wpQuiet_step ?_
              intro K hK
              rw [if_pos (by kernel_rfl)]
              refine move_at (.tmp 6) rfl (.slice (some ⟨g, (j + 1) * 34, none⟩) (L.length - (j + 1)) (cap - (j + 1))) rfl (hK _ ?_)
              clear hK K
              simp only [Act.put, List.setIfInBounds_toArray, List.set_cons_zero, List.set_cons_succ]
              with_reducible refine wpQuiet_step ?_
              intro K hK
              rw [if_pos (by kernel_rfl)]
              refine move_at (.tmp 7) rfl (.int .i64 ((q : Int) + 1)) rfl (hK _ ?_)
              clear hK K
              simp only [Act.put, List.setIfInBounds_toArray, List.set_cons_zero, List.set_cons_succ]
              with_reducible refine wpQuiet_step ?_
              intro K hK
              rw [if_pos (by kernel_rfl)]
              refine val_at (.pointer (some ⟨g, (j + 1) * 34 + (q + 1) * 34, none⟩)) (fun W => by go_simp) (hK _ ?_)
              clear hK K
              simp only [Act.put, List.setIfInBounds_toArray, List.set_cons_zero, List.set_cons_succ]
              with_reducible refine wpQuiet_step ?_
              intro K hK
              rw [if_pos (by kernel_rfl)]
              refine row_at 32 (.tmp 41) rfl g ((j + 1) * 34 + (q + 1) * 34) rfl zr _ HRz.out has rfl hsz (hK _ ?_)
              clear hK K
              simp only [Act.put, List.setIfInBounds_toArray, List.set_cons_zero, List.set_cons_succ]
              with_reducible refine wpQuiet_step ?_
              intro K hK
              rw [if_pos (by kernel_rfl)]
              refine move_at (.tmp 6) rfl (.slice (some ⟨g, (j + 1) * 34, none⟩) (L.length - (j + 1)) (cap - (j + 1))) rfl (hK _ ?_)
              clear hK K
              simp only [Act.put, List.setIfInBounds_toArray, List.set_cons_zero, List.set_cons_succ]
              with_reducible refine wpQuiet_step ?_
              intro K hK
              rw [if_pos (by kernel_rfl)]
              refine move_at (.tmp 7) rfl (.int .i64 ((q : Int) + 1)) rfl (hK _ ?_)
              clear hK K
              simp only [Act.put, List.setIfInBounds_toArray, List.set_cons_zero, List.set_cons_succ]
              with_reducible refine wpQuiet_step ?_
              intro K hK
              rw [if_pos (by kernel_rfl)]
              refine val_at (.int .i64 (q : Int)) (fun W => by go_simp) (hK _ ?_)
              clear hK K
              simp only [Act.put, List.setIfInBounds_toArray, List.set_cons_zero, List.set_cons_succ]
              with_reducible refine wpQuiet_step ?_
              intro K hK
              rw [if_pos (by kernel_rfl)]
              refine val_at (.pointer (some ⟨g, (j + 1) * 34 + q * 34, none⟩)) (fun W => by go_simp) (hK _ ?_)
              clear hK K
              simp only [Act.put, List.setIfInBounds_toArray, List.set_cons_zero, List.set_cons_succ]
              with_reducible refine wpQuiet_step ?_
              intro K hK
              rw [if_pos (by kernel_rfl)]
              refine row_at 32 (.tmp 46) rfl g ((j + 1) * 34 + q * 34) rfl xr _ HRx.out has rfl hsx (hK _ ?_)
              clear hK K
              simp only [Act.put, List.setIfInBounds_toArray, List.set_cons_zero, List.set_cons_succ]
              with_reducible refine wpQuiet_step ?_
              intro K hK
              rw [if_pos (by kernel_rfl)]
              refine call_at 14 #[.agg zr.toArray, .agg xr.toArray] (.bool true) (fun W => by go_simp) HCL.out (hK _ ?_)
              clear hK K
              simp only [Act.put, List.setIfInBounds_toArray, List.set_cons_zero, List.set_cons_succ]
              with_reducible refine wpQuiet_step ?_
              intro K hK
              rw [if_pos (by kernel_rfl)]
              refine val_at (.bool false) (fun W => by go_simp) (hK _ ?_)
              clear hK K
              simp only [Act.put, List.setIfInBounds_toArray, List.set_cons_zero, List.set_cons_succ]
              refine wpQuiet_nil fun w4 hk4 => ?_
              have HM4 : Hid (CMem w4 g cap R ∧ Kept [g] w w4) := ⟨HI.out.2.2.1.kept hk4.kept (by simp), HI.out.2.2.2.trans hk4.kept (by simp)⟩
              clear hk4 HRx HRz HCL has
              go_wp2
              go_roundw
              case rel => exact ⟨p, q + 1, R, hRl, by omega, by omega, rfl, by go_num, HS2.out, HDR.out, HM4.out.1, HM4.out.2⟩
              case measure => simp [intOf]; omega
            · have HCL : Hid (∀ W, Gr wr W → Calls Try.prog 14 #[.agg z.row.toArray, .agg x.row.toArray] W fun e w' => e = .returned (.bool false) ∧ Gr wr w') := by
                have h := HCL0.out
                rw [decide_eq_false hnm] at h
                exact h
              have HS2 : Hid ((R.set p z).take (p + 1) = compN (L.take (j + 2 + (q + 1)))) := by
                have h : (R.set p z).take (p + 1) = compN (L.take (j + 2 + (q + 1))) := by
                  rw [HST.out, if_neg hnm, ← HI.out.1, List.take_add_one, List.getElem?_set_self (by omega), List.take_set_of_le (Nat.le_refl p)]
                  rfl
                exact h
              have HD2 : Hid ((R.set p z).drop (j + 1 + (q + 1)) = L.drop (j + 1 + (q + 1))) := by
                have h : (R.set p z).drop (j + 1 + (q + 1)) = L.drop (j + 1 + (q + 1)) := by rw [List.drop_set_of_lt (by omega), HDR.out]
                exact h
              have HPUT : Hid (∀ W, CMem W g cap R → CMem (W.setCells g (p * 34) z.row) g cap (R.set p z)) := fun W h => h.put p (by omega) z
              have hdata : z.row.toArray.toList = z.row := rfl
              clear HCL0 HST hnm
              generalize x.row = xr at *
              generalize z.row = zr at *
              go_wp2_with fail
              refine region_quiet (Gr wr) (by kernel_rfl) (by kernel_rfl) (Gr.refl wr).drew ?_
              with_reducible refine wpQuiet_step ?_
              intro K hK
              rw [if_pos (by kernel_rfl)]
              refine move_at (.tmp 1) rfl (.func (.func 14) #[] #[]) rfl (hK _ ?_)
              clear hK K
              simp only [Act.put, List.setIfInBounds_toArray, List.set_cons_zero, List.set_cons_succ]
              with_reducible refine wpQuiet_step ?_
              intro K hK
              rw [if_pos (by kernel_rfl)]
              refine move_at (.tmp 6) rfl (.slice (some ⟨g, (j + 1) * 34, none⟩) (L.length - (j + 1)) (cap - (j + 1))) rfl (hK _ ?_)
              clear hK K
              simp only [Act.put, List.setIfInBounds_toArray, List.set_cons_zero, List.set_cons_succ]
              with_reducible refine wpQuiet_step ?_
              intro K hK
              rw [if_pos (by kernel_rfl)]
              refine move_at (.tmp 7) rfl (.int .i64 ((q : Int) + 1)) rfl (hK _ ?_)
              clear hK K
              simp only [Act.put, List.setIfInBounds_toArray, List.set_cons_zero, List.set_cons_succ]
              with_reducible refine wpQuiet_step ?_
              intro K hK
              rw [if_pos (by kernel_rfl)]
              refine val_at (.pointer (some ⟨g, (j + 1) * 34 + (q + 1) * 34, none⟩)) (fun W => by go_simp) (hK _ ?_)
              clear hK K
              simp only [Act.put, List.setIfInBounds_toArray, List.set_cons_zero, List.set_cons_succ]
              with_reducible refine wpQuiet_step ?_
              intro K hK
              rw [if_pos (by kernel_rfl)]
              refine row_at 32 (.tmp 41) rfl g ((j + 1) * 34 + (q + 1) * 34) rfl zr _ HRz.out has rfl hsz (hK _ ?_)
              clear hK K
              simp only [Act.put, List.setIfInBounds_toArray, List.set_cons_zero, List.set_cons_succ]
              with_reducible refine wpQuiet_step ?_
              intro K hK
              rw [if_pos (by kernel_rfl)]
              refine move_at (.tmp 6) rfl (.slice (some ⟨g, (j + 1) * 34, none⟩) (L.length - (j + 1)) (cap - (j + 1))) rfl (hK _ ?_)
              clear hK K
              simp only [Act.put, List.setIfInBounds_toArray, List.set_cons_zero, List.set_cons_succ]
              with_reducible refine wpQuiet_step ?_
              intro K hK
              rw [if_pos (by kernel_rfl)]
              refine move_at (.tmp 7) rfl (.int .i64 ((q : Int) + 1)) rfl (hK _ ?_)
              clear hK K
              simp only [Act.put, List.setIfInBounds_toArray, List.set_cons_zero, List.set_cons_succ]
              with_reducible refine wpQuiet_step ?_
              intro K hK
              rw [if_pos (by kernel_rfl)]
              refine val_at (.int .i64 (q : Int)) (fun W => by go_simp) (hK _ ?_)
              clear hK K
              simp only [Act.put, List.setIfInBounds_toArray, List.set_cons_zero, List.set_cons_succ]
              with_reducible refine wpQuiet_step ?_
              intro K hK
              rw [if_pos (by kernel_rfl)]
              refine val_at (.pointer (some ⟨g, (j + 1) * 34 + q * 34, none⟩)) (fun W => by go_simp) (hK _ ?_)
              clear hK K
              simp only [Act.put, List.setIfInBounds_toArray, List.set_cons_zero, List.set_cons_succ]
              with_reducible refine wpQuiet_step ?_
              intro K hK
              rw [if_pos (by kernel_rfl)]
              refine row_at 32 (.tmp 46) rfl g ((j + 1) * 34 + q * 34) rfl xr _ HRx.out has rfl hsx (hK _ ?_)
              clear hK K
              simp only [Act.put, List.setIfInBounds_toArray, List.set_cons_zero, List.set_cons_succ]
              with_reducible refine wpQuiet_step ?_
              intro K hK
              rw [if_pos (by kernel_rfl)]
              refine call_at 14 #[.agg zr.toArray, .agg xr.toArray] (.bool false) (fun W => by go_simp) HCL.out (hK _ ?_)
              clear hK K
              simp only [Act.put, List.setIfInBounds_toArray, List.set_cons_zero, List.set_cons_succ]
              with_reducible refine wpQuiet_step ?_
              intro K hK
              rw [if_pos (by kernel_rfl)]
              refine val_at (.bool true) (fun W => by go_simp) (hK _ ?_)
              clear hK K
              simp only [Act.put, List.setIfInBounds_toArray, List.set_cons_zero, List.set_cons_succ]
              refine wpQuiet_nil fun w4 hk4 => ?_
              have HM4 : Hid (CMem w4 g cap R ∧ Kept [g] w w4) := ⟨HI.out.2.2.1.kept hk4.kept (by simp), HI.out.2.2.2.trans hk4.kept (by simp)⟩
              have HR4 : Hid (w4.rangeAt g ((j + 1) * 34 + (q + 1) * 34) zr) := HRz.out w4 hk4
              clear hk4 HRx HRz HCL
              go_wp2_with (first
                | (refine wpList_load_mid (by rfl) 32 (.tmp 54) (by rfl) g ((j + 1) * 34 + (q + 1) * 34) (by rfl) zr _ HR4.out has rfl hsz ?_)
                | (refine wpList_store_mid (by rfl) 32 (.tmp 56) (.tmp 55) (by rfl) g (p * 34) zr.toArray (by rfl) (by rfl) (HM4.out.1.there (p * 34) _ (by rw [hz34]; omega)) hsz2 hoz ?_))
              go_roundw
              case rel => exact ⟨p + 1, q + 1, R.set p z, by rw [List.length_set]; exact hRl, by omega, by omega, by go_num, by go_num, HS2.out, HD2.out, HPUT.out _ HM4.out.1, HM4.out.2.trans (Kept.setCells g (Or.inl (by simp)) _ _ _ (Kept.refl [g] w4)) (by simp)⟩
              case measure => simp [intOf]; omega
          · have t2 : decide ((q : Int) + 1 < ((L.length - (j + 1) : Nat) : Int)) = false := decide_eq_false (by omega)
            have t2' : ¬ ((q : Int) + 1 < ((L.length - (j + 1) : Nat) : Int)) := by omega
            have p0 : (0 : Int) ≤ (p : Int) := by omega
            have p1 : (p : Int) ≤ (L.length : Int) := by omega
            have HE : Hid (R.take p = compN L) := by
              have h := HI.out.1
              rw [List.take_of_length_le (l := L) (by omega)] at h
              exact h
            have hsl : (sizeOf 32).run Try.prog wr = .ok 34 wr := Try.sizeOf32 wr
            go_wp2_with (first
              | (refine wpList_from (by rfl) 22 34 (by kernel_rfl) (by exact hsl) (.tmp 59) (.tmp 60) (by rfl) g 0 L.length cap (by rfl) p (p : Int) rfl (by rfl) (by omega) (by omega) ?_; rw [Nat.zero_add])
              | (refine wpList_clear (by rfl) (.tmp 61) 22 32 (.agg zeroS.row.toArray) 34 Try.underlying22 zeroStampV (by show zeroS.row.toArray.size = 34; rw [List.size_toArray, zeroS.row_len]) (fun v hv => zeroS.row_one v hv) (by rfl) (g := g) (off := p * 34) (n := L.length - p) (c := cap - p) (by rfl) (by omega) (by decide) (HI.out.2.2.1.there _ _ (by omega)) ?_
                 intro vs hvs))
            go_ret
            refine ⟨_, rfl, ?_, ?_⟩
            · have h := (HI.out.2.2.1.behind p vs).own HB.out.1 HB.out.2
              rw [List.length_take, Nat.min_eq_left (by omega), HE.out] at h
              exact h
            · exact HI.out.2.2.2.trans (Kept.setCells g (Or.inl (by simp)) _ _ _ (Kept.refl [g] wr)) (by simp)
      · have HCL : Hid (∀ W, Gr wr W → Calls Try.prog 14 #[.agg z.row.toArray, .agg x.row.toArray] W fun e w' => e = .returned (.bool false) ∧ Gr wr w') := by
          have h := HCL0.out
          rw [decide_eq_false hnm] at h
          exact h
        have HS1 : Hid (compN (L.take (j + 2)) = L.take (j + 2)) := by
          have h : compN (L.take (j + 2)) = L.take (j + 2) := by rw [HST.out, if_neg hnm, HI.out.1, HTK.out]
          exact h
        clear HCL0 HST HTK hnm
        generalize x.row = xr at *
        generalize z.row = zr at *
        go_wp2_with fail
        refine region_quiet (Gr wr) (by kernel_rfl) (by kernel_rfl) (Gr.refl wr).drew ?_
        with_reducible refine wpQuiet_step ?_
        intro K hK
        rw [if_pos (by kernel_rfl)]
        refine move_at (.tmp 1) rfl (.func (.func 14) #[] #[]) rfl (hK _ ?_)
        clear hK K
        simp only [Act.put, List.setIfInBounds_toArray, List.set_cons_zero, List.set_cons_succ]
        with_reducible refine wpQuiet_step ?_
        intro K hK
        rw [if_pos (by kernel_rfl)]
        refine move_at (.tmp 0) rfl (.slice (some ⟨g, 0, none⟩) L.length cap) rfl (hK _ ?_)
        clear hK K
        simp only [Act.put, List.setIfInBounds_toArray, List.set_cons_zero, List.set_cons_succ]
        with_reducible refine wpQuiet_step ?_
        intro K hK
        rw [if_pos (by kernel_rfl)]
        refine move_at (.tmp 5) rfl (.int .i64 ((j : Int) + 1)) rfl (hK _ ?_)
        clear hK K
        simp only [Act.put, List.setIfInBounds_toArray, List.set_cons_zero, List.set_cons_succ]
        with_reducible refine wpQuiet_step ?_
        intro K hK
        rw [if_pos (by kernel_rfl)]
        refine val_at (.pointer (some ⟨g, (j + 1) * 34, none⟩)) (fun W => by go_simp) (hK _ ?_)
        clear hK K
        simp only [Act.put, List.setIfInBounds_toArray, List.set_cons_zero, List.set_cons_succ]
        with_reducible refine wpQuiet_step ?_
        intro K hK
        rw [if_pos (by kernel_rfl)]
        refine row_at 32 (.tmp 21) rfl g ((j + 1) * 34) rfl zr _ HRz.out has rfl hsz (hK _ ?_)
        clear hK K
        simp only [Act.put, List.setIfInBounds_toArray, List.set_cons_zero, List.set_cons_succ]
        with_reducible refine wpQuiet_step ?_
        intro K hK
        rw [if_pos (by kernel_rfl)]
        refine move_at (.tmp 0) rfl (.slice (some ⟨g, 0, none⟩) L.length cap) rfl (hK _ ?_)
        clear hK K
        simp only [Act.put, List.setIfInBounds_toArray, List.set_cons_zero, List.set_cons_succ]
        with_reducible refine wpQuiet_step ?_
        intro K hK
        rw [if_pos (by kernel_rfl)]
        refine move_at (.tmp 5) rfl (.int .i64 ((j : Int) + 1)) rfl (hK _ ?_)
        clear hK K
        simp only [Act.put, List.setIfInBounds_toArray, List.set_cons_zero, List.set_cons_succ]
        with_reducible refine wpQuiet_step ?_
        intro K hK
        rw [if_pos (by kernel_rfl)]
        refine val_at (.int .i64 (j : Int)) (fun W => by go_simp) (hK _ ?_)
        clear hK K
        simp only [Act.put, List.setIfInBounds_toArray, List.set_cons_zero, List.set_cons_succ]
        with_reducible refine wpQuiet_step ?_
        intro K hK
        rw [if_pos (by kernel_rfl)]
        refine val_at (.pointer (some ⟨g, j * 34, none⟩)) (fun W => by go_simp) (hK _ ?_)
        clear hK K
        simp only [Act.put, List.setIfInBounds_toArray, List.set_cons_zero, List.set_cons_succ]
        with_reducible refine wpQuiet_step ?_
        intro K hK
        rw [if_pos (by kernel_rfl)]
        refine row_at 32 (.tmp 26) rfl g (j * 34) rfl xr _ HRx.out has rfl hsx (hK _ ?_)
        clear hK K
        simp only [Act.put, List.setIfInBounds_toArray, List.set_cons_zero, List.set_cons_succ]
        with_reducible refine wpQuiet_step ?_
        intro K hK
        rw [if_pos (by kernel_rfl)]
        refine call_at 14 #[.agg zr.toArray, .agg xr.toArray] (.bool false) (fun W => by go_simp) HCL.out (hK _ ?_)
        clear hK K
        simp only [Act.put, List.setIfInBounds_toArray, List.set_cons_zero, List.set_cons_succ]
        refine wpQuiet_nil fun w3 hk3 => ?_
        have HG3 : Hid (Gr w w3) := HI.out.2.trans hk3
        clear hk3 HRx HRz HCL
        have wj1 : IntKind.i64.wrap ((j : Int) + 1 + 1) = (j : Int) + 1 + 1 := by rw [IntKind.wrap_i64]; omega
        go_wp2
        go_roundw
        case rel => exact ⟨j + 1, by omega, by go_num, HS1.out, HG3.out⟩
        case measure => simp [intOf]; omega
    · have t2 : decide ((j : Int) + 1 < (L.length : Int)) = false := decide_eq_false (by omega)
      have t2' : ¬ ((j : Int) + 1 < (L.length : Int)) := by omega
      have HE : Hid (compN L = L) := by
        have h := HI.out.1
        rw [List.take_of_length_le (by omega)] at h
        exact h
      go_wp2
      go_ret
      refine ⟨_, rfl, ?_, ?_⟩
      · rw [HE.out]; exact (HM.out.kept HI.out.2.kept (by simp)).own HB.out.1 HB.out.2
      · exact (Kept.refl _ _).trans HI.out.2.kept (by simp)
end Go.Proofs.Ytmjbaficdoehfaa
