/-
  WALKS: satchellaw1.CodeMany, for every crowd whose lists are not too long.
-/
import Derived.Test.YtnnbfdnkpohnfaaMany3
import Derived.Deep.RegionHeld
import Derived.Deep.RegionLaw
namespace Go.Proofs.Ytnnbfdnkpohnfaa
open Go.RowKit

set_option maxRecDepth 100000 in
set_option maxHeartbeats 4000000 in
theorem many_any (w : World) (n0 : Int) (hn0 : -9223372036854775808 ≤ n0) (hn1 : n0 ≤ 9223372036854775807) (aoB : Option Addr) (cB : Nat) (ls : List BL) (hls : ListsAt w aoB ls) (hgd : ∀ x, x ∈ ls → BL.Good x w) (hll : ls.length ≤ 140737488351232) (hsum : sumL ls + 10000 ≤ 140737488351232) :
    Calls Try.prog 4 #[.agg #[.int .i64 n0, .slice aoB ls.length cB]] w fun e w' => e = .returned (.bool true) ∧ Kept [] w w' := by
  obtain ⟨N, hN⟩ : ∃ N : Nat, (N : Int) = n0 % 64 + 1 := ⟨(n0 % 64 + 1).toNat, by omega⟩
  have hN1 : 1 ≤ N := by omega
  have hN2 : N ≤ 64 := by omega
  have hinto := fun W => into_any n0 64 W (by decide) (by decide) hn0 hn1
  have hadd : 1 + n0 % 64 = (N : Int) := by omega
  have HC0 : Hid _ := Crowd.start w #[.int .i64 n0, .slice aoB ls.length cB]
  generalize n0 % 64 = m0 at *
  clear hN
  go_enter Try.func4, Try.ntmps4
  go_wp2_with (go_at_call 9; refine (hinto _).mono ?_; rintro e w0 ⟨rfl, rfl⟩)
  go_loopw [4, 5, 6] (fun s4 s5 s6 wr => ∃ (L : List Rec) (pv hv : Value), pv = s4 ∧ hv = s5 ∧ L.length ≤ N ∧ s6 = .int .i64 L.length ∧ Hid (Crowd w wr #[.int .i64 n0, .slice aoB ls.length cB] pv hv (.slice none 0 0) L []) ∧ Hid (∀ (j : Nat) (x : Rec), L[j]? = some x → x.zs = fixedB j 4)) (fun _ _ s6 _ => N - (intOf s6).toNat)
  case atStart => exact ⟨[], _, _, rfl, rfl, Nat.zero_le _, rfl, HC0, fun j x hj => by simp at hj⟩
  case round =>
    obtain ⟨L, pv, hv, hpv, hhv, hL, rfl, HC, HZ⟩ := hrel
    subst hpv hhv
    by_cases hlt : L.length < N
    · clear HC0 hinto hls hgd
      have hB : w.heap.size ≤ wr.heap.size := HC.out.kept.size
      have hlm : (L.map fun x => ptrOf x.r).length ≤ 1000000 := by rw [List.length_map]; omega
      have hlm2 : (L.map Rec.v).length ≤ 1000000 := by rw [List.length_map]; omega
      obtain ⟨k, hk⟩ : ∃ k, L.length = k := ⟨_, rfl⟩
      have HKL : Hid (L.length = k) := hk
      rw [hk] at hlt ⊢
      clear hk
      have r1 : IntKind.u32.wrap (k : Int) = k := by rw [IntKind.wrap_u32']; omega
      have hk0 : (0 : Int) ≤ k := by omega
      have hk1 : (k : Int) ≤ 4294967295 := by omega
      go_wp2_with (first
        | (go_at_call 8; refine (New_any _ w.heap.size hB).mono ?_; rintro e w1 ⟨rfl, hA1, hk1⟩
           have HA1 : Hid _ := hA1
           have HK1 : Hid (Kept [] wr w1) := hk1
           have HP1 : Hid _ := HC.out.own_pv (hk1.alloc (.cells #[ptrOf wr.heap.size] 27))
           have hc1 : (w1.alloc (.cells #[ptrOf wr.heap.size] 27)).cell? ⟨w1.heap.size, 0, none⟩ = some (ptrOf wr.heap.size) := cell_of_row _ _ _ _ _ _ (heap_alloc_new w1 _)
           have hB1 : w.heap.size ≤ (w1.alloc (.cells #[ptrOf wr.heap.size] 27)).heap.size := Nat.le_trans hB (hk1.alloc _).size
           clear hA1 hk1)
        | (at_builtin; refine wpList_append_one rfl (.tmp 21) (.tmp 23) 43 27 (.pointer none) 8 Try.underlying43 Try.info_wp rfl rfl rfl HP1.out rfl hc1 rfl hlm (by decide) hB1 ?_; intro pv' w2 hp2 hk2 ha2
           have HP2 : Hid _ := hp2
           have HK2 : Hid (Kept pv.ownBlock.toList w1 w2) := ((Kept.refl _ _).alloc _).then hk2
           have HA2 : Hid (∀ b, pv'.ownBlock = some b → pv.ownBlock = some b ∨ w1.heap.size ≤ b) := fun b hb => by
             rcases ha2 with h | h
             · exact Or.inl (h ▸ hb)
             · rw [h] at hb
               injection hb with hb
               exact Or.inr (by rw [← hb, World.size_alloc]; omega)
           have HH2 : Hid _ := HC.out.mid_hv HK1.out HK2.out ((Kept.refl _ w2).alloc (.cells #[.slice none 0 0] 22))
           have hc2 : (w2.alloc (.cells #[.slice none 0 0] 22)).cell? ⟨w2.heap.size, 0, none⟩ = some (.slice none 0 0) := cell_of_row _ _ _ _ _ _ (heap_alloc_new w2 _)
           have hB2 : w.heap.size ≤ (w2.alloc (.cells #[.slice none 0 0] 22)).heap.size := Nat.le_trans hB (Nat.le_trans HK1.out.size (Nat.le_trans HK2.out.size ((Kept.refl [] w2).alloc _).size))
           clear hp2 hk2 ha2 hc1)
        | (at_builtin; refine wpList_append_one rfl (.tmp 25) (.tmp 26) 40 22 (.slice none 0 0) 24 Try.underlying40 Try.info_bl rfl rfl rfl HH2.out rfl hc2 rfl hlm2 (by decide) hB2 ?_; intro hv' w3 hp3 hk3 ha3
           obtain ⟨gh, ch, gp, cp, rfl, rfl, q1, q2, q3, q4, q5, q6, hne, hA3, c3, hW3, hK3, hB3⟩ := HC.out.after3 HKL.out HA1.out HK1.out HK2.out HA2.out HP2.out hp3 hk3 ha3
           have HW3 : Hid _ := hW3
           have HK3 : Hid _ := hK3
           have HH3 : Hid _ := hp3
           have HA3 : Hid _ := hA3
           clear hp3 hk3 ha3 hc2 hA3 hW3 hK3)
        | (go_at_call 14; refine (WU32_any HW3.out hB3 k hk0 hk1 (by decide)).mono ?_; rintro e w4 ⟨rfl, hw4⟩
           have HW4 : Hid (Wrote w3 w4 wr.heap.size w.heap.size (fixedB k 4) [wr.heap.size]) := hw4
           clear hw4)
        | (go_at_call 15; refine (RU32_any k w4 hk0 hk1).mono ?_; rintro e w5 ⟨u, rfl, hu, hk5⟩
           obtain ⟨⟨t5, c5⟩, f5, S', hG⟩ := HC.out.after5 HKL.out HA1.out HK1.out HK2.out HA2.out HP2.out HH3.out HK3.out HA3.out hne HW4.out hk5 hu
           have HG : Hid _ := hG
           obtain ⟨au, cu, rfl⟩ := own_shape hu
           clear hu hk5 hG))
      go_roundw
      case rel =>
        refine ⟨L ++ [⟨_, _, _, S'⟩], _, _, rfl, rfl, by rw [List.length_append, HKL.out]; exact hlt, by rw [List.length_append, HKL.out]; go_num, HG, ?_⟩
        intro j x hj
        by_cases hjl : j < L.length
        · rw [List.getElem?_append_left hjl] at hj
          exact HZ.out j x hj
        · rw [List.getElem?_append_right (by omega)] at hj
          have hjk : j - L.length < 1 := (List.getElem?_eq_some_iff.1 hj).1
          obtain rfl : j = k := by have := HKL.out; omega
          rw [HKL.out, Nat.sub_self] at hj
          simp only [List.getElem?_cons_zero, Option.some.injEq] at hj
          rw [← hj]
      case measure => simp [intOf]; omega
    · have hLN : L.length = N := by omega
      obtain ⟨gp, cp, hpv, a1, a2, a3, a4, a5, a6⟩ := HC.out.writers (by omega)
      obtain ⟨gh, ch, hhv, b1, b2, b3, b4, b5, b6⟩ := HC.out.lists (by omega)
      clear a5 a6 b5 b6
      rw [hLN] at hpv hhv a1 b1
      rw [hLN]
      subst hpv hhv
      have hN0 : ¬ (N : Int) = 0 := by omega
      have HI : Hid (∀ (j : Nat) (x : Rec), L[j]? = some x → (∃ tl, x.zs = fixedB j 4 ++ tl) ∧ x.zs.length ≤ 4 + sumL (ls.take 0) + 10 * 0) := by
        intro j x hj
        rw [HZ.out j x hj]
        exact ⟨⟨[], by simp⟩, by rw [fixedB_len]; simp [sumL]⟩
      have HLN : Hid (L.length = N) := hLN
      clear HC0 hinto HZ hlt hL hLN
      go_wp2
      go_loopw [7] (fun s7 wv => ∃ (i : Nat) (M : List Rec), i ≤ ls.length ∧ i ≤ 400 ∧ s7 = .int .i64 i ∧ Hid (M.length = N) ∧ Hid (Crowd w wv #[.int .i64 n0, .slice aoB ls.length cB] (.slice (some ⟨gp, 0, none⟩) N cp) (.slice (some ⟨gh, 0, none⟩) N ch) (.slice none 0 0) M []) ∧ Hid (∀ (j : Nat) (x : Rec), M[j]? = some x → (∃ tl, x.zs = fixedB j 4 ++ tl) ∧ x.zs.length ≤ 4 + sumL (ls.take i) + 10 * i)) (fun s7 _ => ls.length - (intOf s7).toNat)
      case atStart => exact ⟨0, L, Nat.zero_le _, Nat.zero_le _, rfl, HLN, HC, HI⟩
      case round =>
        clear HC HI HLN L
        obtain ⟨i, M, hi, hi4, rfl, HM, HC, HZ⟩ := hrel
        obtain ⟨hsz, hsc⟩ := HC.out.script
        have KW := HC.out.kept
        by_cases hgo : i < ls.length ∧ i < 400
        · obtain ⟨hlt, h400⟩ := hgo
          obtain ⟨b, off, rfl, hc⟩ := hls (by rintro rfl; simp at hlt)
          obtain ⟨y, hy⟩ : ∃ y, ls[i]? = some y := ⟨_, List.getElem?_eq_getElem hlt⟩
          have hyg := hgd y (List.mem_of_getElem? hy)
          have hcy := hc i y hy
          have hsb := sumL_take ls i y hy
          obtain ⟨k, hk⟩ : ∃ k, k = i % N := ⟨_, rfl⟩
          have hkN : k < N := by rw [hk]; exact Nat.mod_lt _ (by omega)
          have hrem : Int.tmod (i : Int) (N : Int) = (k : Int) := by rw [hk]; rfl
          obtain ⟨x, hx⟩ : ∃ x, M[k]? = some x := ⟨_, List.getElem?_eq_getElem (by rw [HM.out]; exact hkN)⟩
          obtain ⟨⟨tl, htl⟩, hzl⟩ := HZ.out k x hx
          have hle := sumL_le ls i
          have w1' := HC.out.wcell hx
          have hcy1 := KW.cell hcy (by simp)
          have D := HC.out.duo hx
          have hby := hyg.at'.kept KW (fun _ _ => by simp)
          have hvl := varB_len (y.b.length : Int) (by omega) (by have := hyg.small; omega)
          have hyl := hyg.small
          have hbytes : Calls Try.prog 16 #[.pointer (some ⟨x.r, 0, none⟩), .slice y.ao y.b.length y.cap] wr.drew fun e w' => e = .returned (.tuple #[]) ∧ Wrote wr.drew w' x.r w.heap.size (x.zs ++ varB y.b.length ++ y.b) x.S :=
            WBytes_any (D.box (Kept.refl _ wr).drew).wr (Nat.le_trans KW.size (Kept.refl [] wr).drew.size) _ y.b (hby.kept (Kept.refl [] wr).drew (fun _ _ => by simp)) (fun hn b' hb' hm => absurd (hyg.at'.blkBelow hn b' hb') (by have := (D.lt b' (mem_foot.2 (Or.inl hm))).1; omega)) hyg.oct (by omega)
          have HY : Hid (BL.Good y w) := hyg
          have HCY : Hid _ := hcy
          have HX : Hid (M[k]? = some x) := hx
          have HZX : Hid (x.zs.length ≤ 4 + sumL (ls.take i) + 10 * i) := hzl
          have HTL : Hid (x.zs = fixedB k 4 ++ tl) := htl
          have HSB : Hid _ := hsb
          have hxlen : x.zs.length + 10 + y.b.length ≤ 140737488351232 := by omega
          clear hk hc hx hyg D hby hcy hzl htl hsb hle hgd hls
          go_wp2_with fail
          go_region_held (fun W => W.cell? ⟨gp, k, none⟩ = some (.pointer (some ⟨x.r, 0, none⟩)) ∧ (∀ o, W.cell? ⟨w.heap.size, o, none⟩ = (#[.int .i64 n0, .slice (some ⟨b, off, none⟩) ls.length cB] : Array Value)[o]?) ∧ W.cell? ⟨b, off + i, none⟩ = some (.slice y.ao y.b.length y.cap)) (go_keep)
            (first | (go_at_call 16; refine hbytes.mono ?_; rintro e w1 ⟨rfl, hw1⟩
                      have HW1 : Hid _ := hw1
                      obtain ⟨z1, d1, d2, d3, d4⟩ := HC.out.between HX.out (gh := gh) (ch := ch) (by rw [HM.out]) ((Kept.refl _ wr).drew.then hw1.k)
                      have d5 := d4.cell HCY.out (by simp)
                      have d6 := HC.out.betweenP HX.out ((Kept.refl _ wr).drew.then hw1.k)
                      have HO1 : Hid _ := d3
                      have HK1 : Hid _ := d4
                      clear hw1 d3 d4))
          obtain ⟨us, hus⟩ : ∃ us, x.zs ++ (varB y.b.length ++ y.b) = us := ⟨_, rfl⟩
          have HUS : Hid (x.zs ++ (varB y.b.length ++ y.b) = us) := hus
          clear hus
          have HW2 : Hid (Wrote wr.drew w1 x.r w.heap.size us x.S) := by
            have h := HW1.out
            rw [List.append_assoc, HUS.out] at h
            exact h
          have HF : Hid (∀ (v' : Value) (S' : List Nat) (j : Nat) (z : Rec), (M.set k ⟨x.r, v', us, S'⟩)[j]? = some z → (∃ tl, z.zs = fixedB j 4 ++ tl) ∧ z.zs.length ≤ 4 + sumL (ls.take (i + 1)) + 10 * (i + 1)) := by
            intro v' S' j z hj
            by_cases hjk : j = k
            · subst hjk
              rw [List.getElem?_set_self (by rw [HM.out]; exact hkN)] at hj
              injection hj with hj
              subst hj
              refine ⟨⟨tl ++ (varB y.b.length ++ y.b), ?_⟩, ?_⟩
              · show us = _
                rw [← HUS.out, HTL.out, List.append_assoc]
              · show us.length ≤ _
                have h1 := HZX.out
                have h2 := HSB.out.1
                rw [← HUS.out, List.length_append, List.length_append, h2]
                omega
            · rw [List.getElem?_set_ne (Ne.symm hjk)] at hj
              obtain ⟨h1, h2⟩ := HZ.out j z hj
              have h3 := HSB.out.1
              exact ⟨h1, by omega⟩
          have htx := RText_any _ y.b w1.drew ((HY.out.at'.kept HK1.out (fun _ _ => by simp)).kept (Kept.refl [] w1).drew (fun _ _ => by simp)) hyl
          have d7 : w1.cell? ⟨w.heap.size, 1, none⟩ = some (.slice (some ⟨b, off, none⟩) ls.length cB) := d1 1
          have hB1 : w.heap.size ≤ w1.heap.size := HK1.out.size
          have hul : x.zs.length + (varB y.b.length ++ y.b).length ≤ 140737488355328 := by rw [List.length_append]; omega
          go_wp2_with fail
          go_region_law (first
            | (go_simp; go_at_call 17; refine htx.mono ?_; rintro e w3 ⟨u, rfl, hu, hk3⟩
               have hK3 : Kept [] w1 w3 := (Kept.refl _ w1).drew.then hk3
               have e1 := hK3.cell d2 (by simp)
               have e2 := hK3.cell d5 (by simp)
               have e3 := hK3.cell d7 (by simp)
               have hB3 : w.heap.size ≤ w3.heap.size := Nat.le_trans hB1 hK3.size
               have HU3 : Hid (BytesAt w3 u (varB y.b.length ++ y.b)) := OwnB.bytes hu
               have HK3 : Hid (Kept [] w1 w3) := hK3
               have HO3 : Hid (OwnB w3 w.heap.size x.v x.zs) := OwnB.kept HO1.out hK3 (by simp)
               clear hu hk3 hK3)
            | (refine step_append_bytes (by rfl) (.tmp 75) (.tmp 81) (by rfl) (by rfl) HO3.out (by rfl) HU3.out hul hB3 ?_; intro v' w4 ha
               rw [HUS.out] at ha
               obtain ⟨c4, f4, ⟨av, cv, rfl⟩, S', hC'⟩ := HC.out.laid HM.out HX.out HW2.out HK3.out ha
               have HC' : Hid _ := hC'
               clear ha hC'))
          all_goals go_wp2
          all_goals go_roundw
          all_goals first
            | exact ⟨i + 1, _, by omega, by omega, by go_num, (List.length_set ..).trans HM.out, HC', HF.out _ _⟩
            | (simp [intOf]; omega)
        · have hle := sumL_le ls i
          have HZ2 : Hid (∀ (j : Nat) (x : Rec), M[j]? = some x → (∃ tl, x.zs = fixedB j 4 ++ tl) ∧ x.zs.length ≤ 140737488351232) := by
            intro j x hj
            obtain ⟨h1, h2⟩ := HZ.out j x hj
            exact ⟨h1, by omega⟩
          clear HZ hle hls hgd KW hsum
          by_cases hlt : i < ls.length
          · have h4 : ¬ i < 400 := fun h => hgo ⟨hlt, h⟩
            clear hgo
            go_wp2
            go_loopw [9, 10] (fun s9 s10 wq => ∃ (R : List RRec) (rv : Value), rv = s9 ∧ R.length ≤ N ∧ s10 = .int .i64 R.length ∧ Hid (Crowd w wq #[.int .i64 n0, .slice aoB ls.length cB] (.slice (some ⟨gp, 0, none⟩) N cp) (.slice (some ⟨gh, 0, none⟩) N ch) rv M R) ∧ Hid (∀ (j : Nat) (y : RRec), R[j]? = some y → y.pl = 0 ∧ ∃ x, M[j]? = some x ∧ y.xs = x.zs)) (fun _ s10 _ => N - (intOf s10).toNat)
            case atStart => exact ⟨[], _, rfl, Nat.zero_le _, rfl, HC, fun j y hj => by simp at hj⟩
            case round =>
              clear HC
              obtain ⟨R, rv, hrv, hR, rfl, HC, HR⟩ := hrel
              subst hrv
              obtain ⟨k, hk⟩ : ∃ k, R.length = k := ⟨_, rfl⟩
              have HKR : Hid (R.length = k) := hk
              rw [hk] at hR ⊢
              clear hk
              by_cases hlt3 : k < N
              · obtain ⟨x, hx⟩ : ∃ x, M[k]? = some x := ⟨_, List.getElem?_eq_getElem (by rw [HM.out]; exact hlt3)⟩
                have D := HC.out.duo hx
                have hlc := HC.out.lcell hx
                have hxs := (HZ2.out k x hx).2
                have hcopy := Copy_any _ x.zs wr D.own.bytes (by omega)
                have hoc := D.wr.octs
                have hlm : (R.map fun x => ptrOf x.r).length ≤ 1000000 := by rw [List.length_map, HKR.out]; omega
                have hB : w.heap.size ≤ wr.heap.size := HC.out.kept.size
                have HX : Hid (M[k]? = some x) := hx
                clear D hx
                go_wp2_with (first
                  | (go_at_call 19; refine hcopy.mono ?_; rintro e w1 ⟨rfl, hq1, hk1⟩
                     have hrd := Read_any _ x.zs w1 (row_bytes3 hq1) (by omega) hoc
                     have HK1 : Hid (Kept [] wr w1) := hk1
                     have z1 := hk1.size
                     clear hq1 hk1)
                  | (go_at_call 18; refine hrd.mono ?_; rintro e w2 ⟨ρ, g, rfl, hR2, hk2, hρ, hg⟩
                     have HR2 : Hid _ := hR2
                     have HK2 : Hid (Kept [] wr w2) := HK1.out.then hk2
                     have HP2 : Hid _ := HC.out.own_rv (HK2.out.alloc (.cells #[ptrOf ρ] 50))
                     have hc2 : (w2.alloc (.cells #[ptrOf ρ] 50)).cell? ⟨w2.heap.size, 0, none⟩ = some (ptrOf ρ) := cell_of_row _ _ _ _ _ _ (heap_alloc_new w2 _)
                     have hB2 : w.heap.size ≤ (w2.alloc (.cells #[ptrOf ρ] 50)).heap.size := Nat.le_trans hB (HK2.out.alloc _).size
                     clear hR2 hk2 hrd)
                  | (at_builtin; refine wpList_append_one rfl (.tmp 89) (.tmp 96) 49 50 (.pointer none) 8 Try.underlying49 Try.info_rp rfl rfl rfl HP2.out rfl hc2 rfl hlm (by decide) hB2 ?_; intro rv' w3 hp3 hk3 ha3
                     obtain ⟨hC3, gr, cr, rfl, q1, q2, q3, c3⟩ := HC.out.after_read HKR.out HR2.out HK2.out (Nat.le_trans z1 hρ) (Nat.le_trans z1 hg) hp3 hk3 ha3
                     have HC3 : Hid _ := hC3
                     clear hp3 hk3 ha3 hC3 hc2))
                go_roundw
                case rel =>
                  refine ⟨R ++ [⟨ρ, g, x.zs, 0⟩], _, rfl, by rw [List.length_append, HKR.out]; exact hlt3, by rw [List.length_append, HKR.out]; go_num, HC3, ?_⟩
                  intro j y hj
                  by_cases hjl : j < R.length
                  · rw [List.getElem?_append_left hjl] at hj
                    exact HR.out j y hj
                  · rw [List.getElem?_append_right (by omega)] at hj
                    have hjk : j - R.length < 1 := (List.getElem?_eq_some_iff.1 hj).1
                    obtain rfl : j = k := by have := HKR.out; omega
                    rw [HKR.out, Nat.sub_self] at hj
                    simp only [List.getElem?_cons_zero, Option.some.injEq] at hj
                    rw [← hj]
                    exact ⟨rfl, x, HX.out, rfl⟩
                case measure => simp [intOf]; omega
              · have hRN : R.length = N := by have := HKR.out; omega
                have hkN' : k = N := by have := HKR.out; omega
                obtain ⟨gr, cr, hrv, r1, r2, r3, r4, r5, r6⟩ := HC.out.readers (by omega)
                clear r5 r6
                rw [hRN] at hrv r1
                subst hrv
                rw [hkN']
                have HI4 : Hid (∀ (j : Nat) (y : RRec), R[j]? = some y → (0 ≤ j → y.pl = 0) ∧ ∃ x, M[j]? = some x ∧ y.xs = x.zs) := fun j y hj => ⟨fun _ => (HR.out j y hj).1, (HR.out j y hj).2⟩
                have HRN : Hid (R.length = N) := hRN
                clear hRN hkN' HKR HR hR hlt3
                go_wp2
                go_loopw [11] (fun s11 wq => ∃ (q : Nat) (R : List RRec), q ≤ N ∧ s11 = .int .i64 q ∧ Hid (R.length = N) ∧ Hid (Crowd w wq #[.int .i64 n0, .slice aoB ls.length cB] (.slice (some ⟨gp, 0, none⟩) N cp) (.slice (some ⟨gh, 0, none⟩) N ch) (.slice (some ⟨gr, 0, none⟩) N cr) M R) ∧ Hid (∀ (j : Nat) (y : RRec), R[j]? = some y → (q ≤ j → y.pl = 0) ∧ ∃ x, M[j]? = some x ∧ y.xs = x.zs)) (fun s11 _ => N - (intOf s11).toNat)
                case atStart => exact ⟨0, R, Nat.zero_le _, rfl, HRN, HC, HI4⟩
                case round =>
                  clear HC HI4 HRN R
                  obtain ⟨q, R, hq, rfl, HRN, HC, HR⟩ := hrel
                  by_cases hlt4 : q < N
                  · obtain ⟨y, hy⟩ : ∃ y, R[q]? = some y := ⟨_, List.getElem?_eq_getElem (by rw [HRN.out]; exact hlt4)⟩
                    obtain ⟨hpl, x, hx, hyx⟩ := HR.out q y hy
                    have hpl := hpl (Nat.le_refl _)
                    obtain ⟨⟨tl, htl⟩, hxs⟩ := HZ2.out q x hx
                    have D := HC.out.duo hx
                    obtain ⟨av, cv, hxv⟩ := own_shape D.own
                    have c1 := HC.out.wcell hx
                    have c2 := HC.out.lcell hx
                    have c3 := HC.out.rcell hy
                    rw [hxv] at c2
                    have hx4 : 4 ≤ x.zs.length := by rw [htl, List.length_append, fixedB_len]; omega
                    have r1' : IntKind.u32.wrap (q : Int) = q := by rw [IntKind.wrap_u32']; omega
                    have hsub : IntKind.i64.wrap ((x.zs.length : Int) - 4) = (x.zs.length : Int) - 4 := by rw [IntKind.wrap_i64]; omega
                    have hU : ∀ W, Rdr W y.r y.g x.zs 0 0 → Calls Try.prog 20 #[.pointer (some ⟨y.r, 0, none⟩)] W fun e w' => e = .returned (.int .u32 q) ∧ Rdr w' y.r y.g x.zs 4 0 ∧ Kept [y.r] W w' := fun W hW => by
                      have et : takeL x.zs 0 0 0 4 0 = ⟨q, [], 4, 0⟩ := by rw [htl]; exact took_fixed q tl (by omega) (by have : (256 : Int) ^ 4 = 4294967296 := by decide
                                                                                                                          omega)
                      exact U32_any hW ⟨q, [], 4, 0⟩ et.symm
                    have HRD : Hid (∀ W, Crowd w W #[.int .i64 n0, .slice aoB ls.length cB] (.slice (some ⟨gp, 0, none⟩) N cp) (.slice (some ⟨gh, 0, none⟩) N ch) (.slice (some ⟨gr, 0, none⟩) N cr) M R → Rdr W y.r y.g x.zs 0 0) := fun W hC => by
                      have h := hC.rdr hy
                      rwa [hpl, hyx] at h
                    have HTK : Hid (∀ W W', Crowd w W #[.int .i64 n0, .slice aoB ls.length cB] (.slice (some ⟨gp, 0, none⟩) N cp) (.slice (some ⟨gh, 0, none⟩) N ch) (.slice (some ⟨gr, 0, none⟩) N cr) M R → Rdr W' y.r y.g x.zs 4 0 → Kept [y.r] W W' → Crowd w W' #[.int .i64 n0, .slice aoB ls.length cB] (.slice (some ⟨gp, 0, none⟩) N cp) (.slice (some ⟨gh, 0, none⟩) N ch) (.slice (some ⟨gr, 0, none⟩) N cr) M (R.set q ⟨y.r, y.g, y.xs, 4⟩)) := fun W W' hC h k => hC.took hy (by rw [hyx]; exact h) k
                    have HX : Hid (M[q]? = some x) := hx
                    have HY : Hid (R[q]? = some y) := hy
                    have HYX : Hid (y.xs = x.zs) := hyx
                    have HXV : Hid (x.v = .slice av x.zs.length cv) := hxv
                    have hm47 : x.zs.length ≤ 140737488355328 := by omega
                    clear hpl htl hxs D hx hy hyx hxv
                    go_wp2_with fail
                    go_region_held (fun W => W.cell? ⟨gp, q, none⟩ = some (.pointer (some ⟨x.r, 0, none⟩)) ∧ W.cell? ⟨gh, q, none⟩ = some (.slice av x.zs.length cv) ∧ W.cell? ⟨gr, q, none⟩ = some (.pointer (some ⟨y.r, 0, none⟩))) (go_keep) (first
                      | (go_at_call 12; refine (WOut_any (Crowd.duo (HC.out.box (Kept.refl _ _).drew) HX.out).wr hm47).mono ?_; rintro e w1 ⟨rfl, hq1, hk1⟩
                         have hC1 : Crowd w w1 #[.int .i64 n0, .slice aoB ls.length cB] (.slice (some ⟨gp, 0, none⟩) N cp) (.slice (some ⟨gh, 0, none⟩) N ch) (.slice (some ⟨gr, 0, none⟩) N cr) M R := HC.out.box ((Kept.refl [] wr).drew.then hk1)
                         have d1 := hC1.wcell HX.out
                         have d2 := hC1.lcell HX.out
                         have d3 := hC1.rcell HY.out
                         rw [HXV.out] at d2
                         have HQ1 : Hid _ := row_bytes3 hq1
                         have HC1 : Hid (Crowd w w1 #[.int .i64 n0, .slice aoB ls.length cB] (.slice (some ⟨gp, 0, none⟩) N cp) (.slice (some ⟨gh, 0, none⟩) N ch) (.slice (some ⟨gr, 0, none⟩) N cr) M R) := hC1
                         have HO1 : Hid (BytesAt w1 (.slice av x.zs.length cv) x.zs) := by
                           have h := (hC1.duo HX.out).own.bytes
                           rw [HXV.out] at h
                           exact h
                         clear hq1 hk1 hC1)
                      | (go_at_call 11; refine (Eq_same HQ1.out HO1.out hm47).mono ?_; rintro e w2 ⟨rfl, n2, rfl⟩
                         have HC2 : Hid (Crowd w (w1.drewN n2) #[.int .i64 n0, .slice aoB ls.length cB] (.slice (some ⟨gp, 0, none⟩) N cp) (.slice (some ⟨gh, 0, none⟩) N ch) (.slice (some ⟨gr, 0, none⟩) N cr) M R) := HC1.out.box ((Kept.refl _ _).drewN n2))
                      | (go_at_call 20; refine (hU _ (HRD.out _ HC2.out)).mono ?_; rintro e w3 ⟨rfl, hr3, hk3⟩
                         have hC3 := HTK.out _ _ HC2.out hr3 hk3
                         have e1 := hC3.wcell HX.out
                         have e2 := hC3.lcell HX.out
                         have e3 : w3.cell? ⟨gr, q, none⟩ = some (.pointer (some ⟨y.r, 0, none⟩)) := hC3.rcell (x := ⟨y.r, y.g, y.xs, 4⟩) (List.getElem?_set_self (by rw [HRN.out]; exact hlt4))
                         rw [HXV.out] at e2
                         have HR3 : Hid _ := hr3
                         have HC3 : Hid (Crowd w w3 #[.int .i64 n0, .slice aoB ls.length cB] (.slice (some ⟨gp, 0, none⟩) N cp) (.slice (some ⟨gh, 0, none⟩) N ch) (.slice (some ⟨gr, 0, none⟩) N cr) M (R.set q ⟨y.r, y.g, y.xs, 4⟩)) := hC3
                         clear hr3 hk3 hC3)
                      | (go_at_call 21; refine (Left_any HR3.out).mono ?_; rintro e w4 ⟨rfl, n4, rfl⟩))
                    all_goals go_wp2
                    all_goals go_roundw
                    case rel =>
                      refine ⟨q + 1, R.set q ⟨y.r, y.g, y.xs, 4⟩, by omega, by go_num, (List.length_set ..).trans HRN.out, HC3.out.box ((Kept.refl _ _).drewN n4), ?_⟩
                      intro j z hj
                      by_cases hjq : j = q
                      · subst hjq
                        rw [List.getElem?_set_self (by rw [HRN.out]; exact hlt4)] at hj
                        injection hj with hj
                        subst hj
                        exact ⟨fun h => by omega, x, HX.out, HYX.out⟩
                      · rw [List.getElem?_set_ne (Ne.symm hjq)] at hj
                        obtain ⟨h1, h2⟩ := HR.out j z hj
                        exact ⟨fun h => h1 (by omega), h2⟩
                    case measure => simp [intOf]; omega
                  · go_wp2
                    go_ret
                    exact ⟨rfl, HC.out.kept⟩
          · clear hgo
            go_wp2
            go_loopw [9, 10] (fun s9 s10 wq => ∃ (R : List RRec) (rv : Value), rv = s9 ∧ R.length ≤ N ∧ s10 = .int .i64 R.length ∧ Hid (Crowd w wq #[.int .i64 n0, .slice aoB ls.length cB] (.slice (some ⟨gp, 0, none⟩) N cp) (.slice (some ⟨gh, 0, none⟩) N ch) rv M R) ∧ Hid (∀ (j : Nat) (y : RRec), R[j]? = some y → y.pl = 0 ∧ ∃ x, M[j]? = some x ∧ y.xs = x.zs)) (fun _ s10 _ => N - (intOf s10).toNat)
            case atStart => exact ⟨[], _, rfl, Nat.zero_le _, rfl, HC, fun j y hj => by simp at hj⟩
            case round =>
              clear HC
              obtain ⟨R, rv, hrv, hR, rfl, HC, HR⟩ := hrel
              subst hrv
              obtain ⟨k, hk⟩ : ∃ k, R.length = k := ⟨_, rfl⟩
              have HKR : Hid (R.length = k) := hk
              rw [hk] at hR ⊢
              clear hk
              by_cases hlt3 : k < N
              · obtain ⟨x, hx⟩ : ∃ x, M[k]? = some x := ⟨_, List.getElem?_eq_getElem (by rw [HM.out]; exact hlt3)⟩
                have D := HC.out.duo hx
                have hlc := HC.out.lcell hx
                have hxs := (HZ2.out k x hx).2
                have hcopy := Copy_any _ x.zs wr D.own.bytes (by omega)
                have hoc := D.wr.octs
                have hlm : (R.map fun x => ptrOf x.r).length ≤ 1000000 := by rw [List.length_map, HKR.out]; omega
                have hB : w.heap.size ≤ wr.heap.size := HC.out.kept.size
                have HX : Hid (M[k]? = some x) := hx
                clear D hx
                go_wp2_with (first
                  | (go_at_call 19; refine hcopy.mono ?_; rintro e w1 ⟨rfl, hq1, hk1⟩
                     have hrd := Read_any _ x.zs w1 (row_bytes3 hq1) (by omega) hoc
                     have HK1 : Hid (Kept [] wr w1) := hk1
                     have z1 := hk1.size
                     clear hq1 hk1)
                  | (go_at_call 18; refine hrd.mono ?_; rintro e w2 ⟨ρ, g, rfl, hR2, hk2, hρ, hg⟩
                     have HR2 : Hid _ := hR2
                     have HK2 : Hid (Kept [] wr w2) := HK1.out.then hk2
                     have HP2 : Hid _ := HC.out.own_rv (HK2.out.alloc (.cells #[ptrOf ρ] 50))
                     have hc2 : (w2.alloc (.cells #[ptrOf ρ] 50)).cell? ⟨w2.heap.size, 0, none⟩ = some (ptrOf ρ) := cell_of_row _ _ _ _ _ _ (heap_alloc_new w2 _)
                     have hB2 : w.heap.size ≤ (w2.alloc (.cells #[ptrOf ρ] 50)).heap.size := Nat.le_trans hB (HK2.out.alloc _).size
                     clear hR2 hk2 hrd)
                  | (at_builtin; refine wpList_append_one rfl (.tmp 89) (.tmp 96) 49 50 (.pointer none) 8 Try.underlying49 Try.info_rp rfl rfl rfl HP2.out rfl hc2 rfl hlm (by decide) hB2 ?_; intro rv' w3 hp3 hk3 ha3
                     obtain ⟨hC3, gr, cr, rfl, q1, q2, q3, c3⟩ := HC.out.after_read HKR.out HR2.out HK2.out (Nat.le_trans z1 hρ) (Nat.le_trans z1 hg) hp3 hk3 ha3
                     have HC3 : Hid _ := hC3
                     clear hp3 hk3 ha3 hC3 hc2))
                go_roundw
                case rel =>
                  refine ⟨R ++ [⟨ρ, g, x.zs, 0⟩], _, rfl, by rw [List.length_append, HKR.out]; exact hlt3, by rw [List.length_append, HKR.out]; go_num, HC3, ?_⟩
                  intro j y hj
                  by_cases hjl : j < R.length
                  · rw [List.getElem?_append_left hjl] at hj
                    exact HR.out j y hj
                  · rw [List.getElem?_append_right (by omega)] at hj
                    have hjk : j - R.length < 1 := (List.getElem?_eq_some_iff.1 hj).1
                    obtain rfl : j = k := by have := HKR.out; omega
                    rw [HKR.out, Nat.sub_self] at hj
                    simp only [List.getElem?_cons_zero, Option.some.injEq] at hj
                    rw [← hj]
                    exact ⟨rfl, x, HX.out, rfl⟩
                case measure => simp [intOf]; omega
              · have hRN : R.length = N := by have := HKR.out; omega
                have hkN' : k = N := by have := HKR.out; omega
                obtain ⟨gr, cr, hrv, r1, r2, r3, r4, r5, r6⟩ := HC.out.readers (by omega)
                clear r5 r6
                rw [hRN] at hrv r1
                subst hrv
                rw [hkN']
                have HI4 : Hid (∀ (j : Nat) (y : RRec), R[j]? = some y → (0 ≤ j → y.pl = 0) ∧ ∃ x, M[j]? = some x ∧ y.xs = x.zs) := fun j y hj => ⟨fun _ => (HR.out j y hj).1, (HR.out j y hj).2⟩
                have HRN : Hid (R.length = N) := hRN
                clear hRN hkN' HKR HR hR hlt3
                go_wp2
                go_loopw [11] (fun s11 wq => ∃ (q : Nat) (R : List RRec), q ≤ N ∧ s11 = .int .i64 q ∧ Hid (R.length = N) ∧ Hid (Crowd w wq #[.int .i64 n0, .slice aoB ls.length cB] (.slice (some ⟨gp, 0, none⟩) N cp) (.slice (some ⟨gh, 0, none⟩) N ch) (.slice (some ⟨gr, 0, none⟩) N cr) M R) ∧ Hid (∀ (j : Nat) (y : RRec), R[j]? = some y → (q ≤ j → y.pl = 0) ∧ ∃ x, M[j]? = some x ∧ y.xs = x.zs)) (fun s11 _ => N - (intOf s11).toNat)
                case atStart => exact ⟨0, R, Nat.zero_le _, rfl, HRN, HC, HI4⟩
                case round =>
                  clear HC HI4 HRN R
                  obtain ⟨q, R, hq, rfl, HRN, HC, HR⟩ := hrel
                  by_cases hlt4 : q < N
                  · obtain ⟨y, hy⟩ : ∃ y, R[q]? = some y := ⟨_, List.getElem?_eq_getElem (by rw [HRN.out]; exact hlt4)⟩
                    obtain ⟨hpl, x, hx, hyx⟩ := HR.out q y hy
                    have hpl := hpl (Nat.le_refl _)
                    obtain ⟨⟨tl, htl⟩, hxs⟩ := HZ2.out q x hx
                    have D := HC.out.duo hx
                    obtain ⟨av, cv, hxv⟩ := own_shape D.own
                    have c1 := HC.out.wcell hx
                    have c2 := HC.out.lcell hx
                    have c3 := HC.out.rcell hy
                    rw [hxv] at c2
                    have hx4 : 4 ≤ x.zs.length := by rw [htl, List.length_append, fixedB_len]; omega
                    have r1' : IntKind.u32.wrap (q : Int) = q := by rw [IntKind.wrap_u32']; omega
                    have hsub : IntKind.i64.wrap ((x.zs.length : Int) - 4) = (x.zs.length : Int) - 4 := by rw [IntKind.wrap_i64]; omega
                    have hU : ∀ W, Rdr W y.r y.g x.zs 0 0 → Calls Try.prog 20 #[.pointer (some ⟨y.r, 0, none⟩)] W fun e w' => e = .returned (.int .u32 q) ∧ Rdr w' y.r y.g x.zs 4 0 ∧ Kept [y.r] W w' := fun W hW => by
                      have et : takeL x.zs 0 0 0 4 0 = ⟨q, [], 4, 0⟩ := by rw [htl]; exact took_fixed q tl (by omega) (by have : (256 : Int) ^ 4 = 4294967296 := by decide
                                                                                                                          omega)
                      exact U32_any hW ⟨q, [], 4, 0⟩ et.symm
                    have HRD : Hid (∀ W, Crowd w W #[.int .i64 n0, .slice aoB ls.length cB] (.slice (some ⟨gp, 0, none⟩) N cp) (.slice (some ⟨gh, 0, none⟩) N ch) (.slice (some ⟨gr, 0, none⟩) N cr) M R → Rdr W y.r y.g x.zs 0 0) := fun W hC => by
                      have h := hC.rdr hy
                      rwa [hpl, hyx] at h
                    have HTK : Hid (∀ W W', Crowd w W #[.int .i64 n0, .slice aoB ls.length cB] (.slice (some ⟨gp, 0, none⟩) N cp) (.slice (some ⟨gh, 0, none⟩) N ch) (.slice (some ⟨gr, 0, none⟩) N cr) M R → Rdr W' y.r y.g x.zs 4 0 → Kept [y.r] W W' → Crowd w W' #[.int .i64 n0, .slice aoB ls.length cB] (.slice (some ⟨gp, 0, none⟩) N cp) (.slice (some ⟨gh, 0, none⟩) N ch) (.slice (some ⟨gr, 0, none⟩) N cr) M (R.set q ⟨y.r, y.g, y.xs, 4⟩)) := fun W W' hC h k => hC.took hy (by rw [hyx]; exact h) k
                    have HX : Hid (M[q]? = some x) := hx
                    have HY : Hid (R[q]? = some y) := hy
                    have HYX : Hid (y.xs = x.zs) := hyx
                    have HXV : Hid (x.v = .slice av x.zs.length cv) := hxv
                    have hm47 : x.zs.length ≤ 140737488355328 := by omega
                    clear hpl htl hxs D hx hy hyx hxv
                    go_wp2_with fail
                    go_region_held (fun W => W.cell? ⟨gp, q, none⟩ = some (.pointer (some ⟨x.r, 0, none⟩)) ∧ W.cell? ⟨gh, q, none⟩ = some (.slice av x.zs.length cv) ∧ W.cell? ⟨gr, q, none⟩ = some (.pointer (some ⟨y.r, 0, none⟩))) (go_keep) (first
                      | (go_at_call 12; refine (WOut_any (Crowd.duo (HC.out.box (Kept.refl _ _).drew) HX.out).wr hm47).mono ?_; rintro e w1 ⟨rfl, hq1, hk1⟩
                         have hC1 : Crowd w w1 #[.int .i64 n0, .slice aoB ls.length cB] (.slice (some ⟨gp, 0, none⟩) N cp) (.slice (some ⟨gh, 0, none⟩) N ch) (.slice (some ⟨gr, 0, none⟩) N cr) M R := HC.out.box ((Kept.refl [] wr).drew.then hk1)
                         have d1 := hC1.wcell HX.out
                         have d2 := hC1.lcell HX.out
                         have d3 := hC1.rcell HY.out
                         rw [HXV.out] at d2
                         have HQ1 : Hid _ := row_bytes3 hq1
                         have HC1 : Hid (Crowd w w1 #[.int .i64 n0, .slice aoB ls.length cB] (.slice (some ⟨gp, 0, none⟩) N cp) (.slice (some ⟨gh, 0, none⟩) N ch) (.slice (some ⟨gr, 0, none⟩) N cr) M R) := hC1
                         have HO1 : Hid (BytesAt w1 (.slice av x.zs.length cv) x.zs) := by
                           have h := (hC1.duo HX.out).own.bytes
                           rw [HXV.out] at h
                           exact h
                         clear hq1 hk1 hC1)
                      | (go_at_call 11; refine (Eq_same HQ1.out HO1.out hm47).mono ?_; rintro e w2 ⟨rfl, n2, rfl⟩
                         have HC2 : Hid (Crowd w (w1.drewN n2) #[.int .i64 n0, .slice aoB ls.length cB] (.slice (some ⟨gp, 0, none⟩) N cp) (.slice (some ⟨gh, 0, none⟩) N ch) (.slice (some ⟨gr, 0, none⟩) N cr) M R) := HC1.out.box ((Kept.refl _ _).drewN n2))
                      | (go_at_call 20; refine (hU _ (HRD.out _ HC2.out)).mono ?_; rintro e w3 ⟨rfl, hr3, hk3⟩
                         have hC3 := HTK.out _ _ HC2.out hr3 hk3
                         have e1 := hC3.wcell HX.out
                         have e2 := hC3.lcell HX.out
                         have e3 : w3.cell? ⟨gr, q, none⟩ = some (.pointer (some ⟨y.r, 0, none⟩)) := hC3.rcell (x := ⟨y.r, y.g, y.xs, 4⟩) (List.getElem?_set_self (by rw [HRN.out]; exact hlt4))
                         rw [HXV.out] at e2
                         have HR3 : Hid _ := hr3
                         have HC3 : Hid (Crowd w w3 #[.int .i64 n0, .slice aoB ls.length cB] (.slice (some ⟨gp, 0, none⟩) N cp) (.slice (some ⟨gh, 0, none⟩) N ch) (.slice (some ⟨gr, 0, none⟩) N cr) M (R.set q ⟨y.r, y.g, y.xs, 4⟩)) := hC3
                         clear hr3 hk3 hC3)
                      | (go_at_call 21; refine (Left_any HR3.out).mono ?_; rintro e w4 ⟨rfl, n4, rfl⟩))
                    all_goals go_wp2
                    all_goals go_roundw
                    case rel =>
                      refine ⟨q + 1, R.set q ⟨y.r, y.g, y.xs, 4⟩, by omega, by go_num, (List.length_set ..).trans HRN.out, HC3.out.box ((Kept.refl _ _).drewN n4), ?_⟩
                      intro j z hj
                      by_cases hjq : j = q
                      · subst hjq
                        rw [List.getElem?_set_self (by rw [HRN.out]; exact hlt4)] at hj
                        injection hj with hj
                        subst hj
                        exact ⟨fun h => by omega, x, HX.out, HYX.out⟩
                      · rw [List.getElem?_set_ne (Ne.symm hjq)] at hj
                        obtain ⟨h1, h2⟩ := HR.out j z hj
                        exact ⟨fun h => h1 (by omega), h2⟩
                    case measure => simp [intOf]; omega
                  · go_wp2
                    go_ret
                    exact ⟨rfl, HC.out.kept⟩
end Go.Proofs.Ytnnbfdnkpohnfaa
