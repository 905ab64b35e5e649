/-
  WALK: satchellaw2.DigestMany, for every number and text.
-/
import Derived.Test.YtbhhkonhoknifaaDoorDMa0
import Derived.Deep.RegionHeld
namespace Go.Proofs.YtbhhkonhoknifaaDoor
open Go.RowKit

theorem three_bytes (a b c : Int) (ha : 0 ≤ a ∧ a ≤ 255) (hb : 0 ≤ b ∧ b ≤ 255) (hc : 0 ≤ c ∧ c ≤ 255) : Octs [a, b, c] := by
  intro u hu
  simp at hu
  omega

theorem apart_ne' {b g n c : Nat} (h : b < g) : ∀ q, blkOf (.slice (some ⟨g, 0, none⟩) n c) = some q → q ≠ b := apart_new h
theorem Crowd.cell' {w W : World} {bx : Array Value} {g cap n : Nat} {hs : List Nat} {cont : Nat → List Int} (c : Crowd w W bx (.slice (some ⟨g, 0, none⟩) n cap) hs cont) (hl : hs.length = n) {i b : Nat} (hb : hs[i]? = some b) : W.cell? ⟨g, i, none⟩ = some (.pointer (some ⟨b, 0, none⟩)) := by
  subst hl
  exact c.cell hb

set_option maxRecDepth 100000 in
set_option maxHeartbeats 8000000 in
theorem digestMany_any (w : World) (hV : Vars w) (N : Int) (ao : Option Addr) (cap : Nat) (xs : List Int) (hx : BytesAt w (.slice ao xs.length cap) xs) (hox : Octs xs) (hsx : xs.length ≤ 140737488351232) :
    Calls Tryd.prog 4 #[.agg #[.int .i64 N, .slice ao xs.length cap]] w fun e w' => e = .returned (.bool true) ∧ Kept [] w w' := by
  have HV : Hid (∀ W, Kept [] w W → Vars W) := fun W hk => hV.kept hk (by simp) (by simp)
  obtain ⟨bx, hbx⟩ : ∃ bx : Array Value, bx = #[.int .i64 N, .slice ao xs.length cap] := ⟨_, rfl⟩
  have HBX : Hid (bx = #[.int .i64 N, .slice ao xs.length cap]) := hbx
  have HC0 : Hid (Crowd w (w.alloc (.cells #[.int .i64 N, .slice ao xs.length cap] 34)) bx (.slice none 0 0) [] (fun _ => [])) := by
    rw [hbx]
    exact ⟨heap_alloc_new w _, World.ownsRow_nil _ _ _ _, List.nodup_nil, fun i b h => by simp at h, fun b h => by simp at h, fun g h => by simp, (Kept.refl [] w).alloc _⟩
  obtain ⟨n, hn1, hn2, hn⟩ : ∃ n : Nat, 1 ≤ n ∧ n ≤ 300 ∧ (1 : Int) + N % 300 = n := by
    have h1 := Int.emod_nonneg N (by decide : (300 : Int) ≠ 0)
    have h2 := Int.emod_lt_of_pos N (by decide : (0 : Int) < 300)
    exact ⟨(1 + N % 300).toNat, by omega, by omega, by omega⟩
  have HWI := fun W => within_any N 300 W (by decide) (by decide)
  obtain ⟨i0, hi0, hz0, hz1, hz2⟩ := info_parts Tryd.info_ph
  clear hV hbx
  go_enter Tryd.func4, Tryd.ntmps4
  go_wp2_with (go_at_call 15; refine (HWI _).mono ?_; rintro e w9 ⟨rfl, rfl⟩)
  generalize w.alloc (.cells #[.int .i64 N, .slice ao xs.length cap] 34) = w0 at *
  clear HWI
  go_loopw [4, 5] (fun s4 s5 wr => ∃ (i : Nat) (hs : List Nat), i ≤ n ∧ s5 = .int .i64 i ∧ hs.length = i ∧ Hid (Crowd w wr bx s4 hs (fun _ => []))) (fun _ s5 _ => n - (intOf s5).toNat)
  case atStart => exact ⟨0, [], Nat.zero_le _, rfl, rfl, HC0⟩
  case round =>
    clear HC0
    obtain ⟨i, hs, hi, rfl, hsl, HC⟩ := hrel
    by_cases hlt : i < n
    · have HN := NewX_any wr (HV.out wr HC.out.kept)
      have ho0 : ∀ W, Kept [] wr W → W.ownsRow (w.heap.size + 1) 22 1 u4 i (ptrL hs) := fun W hk => by
        have h := ownsRow_kept HC.out.own hk (by simp)
        rwa [hsl] at h
      have HO0 : Hid _ := ho0
      clear ho0
      go_wp2_with (first
        | (go_at_call 8; refine HN.mono ?_; rintro e w1 ⟨rfl, hH1, hk1⟩
           have ho1 := HO0.out (w1.alloc (.cells #[.pointer (some ⟨wr.heap.size, 0, none⟩)] 22)) (hk1.alloc _)
           have hB1 : w.heap.size + 1 ≤ (w1.alloc (.cells #[.pointer (some ⟨wr.heap.size, 0, none⟩)] 22)).heap.size := by
             have h1 := lt_of_block HC.out.box
             have h2 := hk1.size
             simp
             omega
           have HH1 : Hid (HashX w1 wr.heap.size []) := hH1
           have HK1 : Hid (Kept [] wr w1) := hk1
           clear hH1 hk1 HN)
        | (at_builtin; refine wpList_append_own_at _ rfl (.tmp 23) (.tmp 25) 36 rfl (w.heap.size + 1) 22 i0 (.pointer none) 1 8 Tryd.underlying36 hi0 hz0 hz1 hz2 rfl (by decide) u4 i (ptrL hs) rfl ho1 ⟨w1.heap.size, 0, none⟩ 1 1 [.pointer (some ⟨wr.heap.size, 0, none⟩)] rfl rfl (one_new w1 _ _) (by simp [Value.oneCell']) (by unfold maxLen; omega) (by omega) hB1 ?_; intro v' w2 ho2 hgr2 hnil2 hat2
           rw [← hsl] at ho2
           have HC2 : Hid (Crowd w w2 bx v' (hs ++ [wr.heap.size]) (fun _ => [])) := HC.out.add HK1.out HH1.out rfl ho2 hgr2 hat2
           clear ho2 hgr2 hnil2 hat2 ho1 hB1))
      go_roundw
      case rel => exact ⟨i + 1, hs ++ [wr.heap.size], by omega, by go_num, by simp [hsl], HC2⟩
      case measure => simp [intOf]; omega
    · obtain rfl : i = n := by omega
      obtain ⟨g, gcap, rfl, hgc⟩ := HC.out.shape (by omega)
      rw [hsl] at HC ⊢
      have HCn : Hid (Crowd w wr bx (.slice (some ⟨g, 0, none⟩) i gcap) hs (contL 0)) := HC
      have HG : Hid (∀ j, j < i → ∃ b, hs[j]? = some b) := fun j hj => ⟨_, List.getElem?_eq_getElem (by omega)⟩
      have HSL : Hid (hs.length = i) := hsl
      rw [hsl] at hgc
      clear HC hsl
      go_wp2
      go_loopw [7] (fun s7 wr => ∃ k : Nat, k ≤ 2 ∧ s7 = .int .i64 k ∧ Hid (Crowd w wr bx (.slice (some ⟨g, 0, none⟩) i gcap) hs (contL k))) (fun s7 _ => 2 - (intOf s7).toNat)
      case atStart => exact ⟨0, Nat.zero_le _, rfl, HCn⟩
      case round =>
        clear HCn
        obtain ⟨k, hk, rfl, HC⟩ := hrel
        by_cases hk2 : k < 2
        · have hd2 : decide ((k : Int) < 2) = true := decide_eq_true (by omega)
          go_wp2
          go_loopw [8] (fun s8 wr => ∃ j : Nat, j ≤ i ∧ s8 = .int .i64 j ∧ Hid (Crowd w wr bx (.slice (some ⟨g, 0, none⟩) i gcap) hs (fun q => if q < j then contL (k + 1) q else contL k q))) (fun s8 _ => i - (intOf s8).toNat)
          case atStart => exact ⟨0, Nat.zero_le _, rfl, HC.out.more (fun j _ => if_neg (Nat.not_lt_zero j))⟩
          case round =>
            clear HC
            obtain ⟨j, hj, rfl, HC⟩ := hrel
            by_cases hji : j < i
            · have hdj : decide ((j : Int) < (i : Int)) = true := decide_eq_true (by omega)
              obtain ⟨b, hb⟩ := HG.out j hji
              have cb := HC.out.cell' HSL.out hb
              have HCa : Hid (Crowd w (wr.alloc (.cells #[.int .u8 ((j : Int) % 256), .int .u8 ((j : Int) / 256), .int .u8 (k : Int)] 5)) bx (.slice (some ⟨g, 0, none⟩) i gcap) hs (fun q => if q < j then contL (k + 1) q else contL k q)) := HC.out.next ((Kept.refl [] wr).alloc _)
              have hHa : HashX (wr.alloc (.cells #[.int .u8 ((j : Int) % 256), .int .u8 ((j : Int) / 256), .int .u8 (k : Int)] 5)) b (contL k j) := by
                have h := HCa.out.hash j b hb
                rwa [if_neg (Nat.lt_irrefl j)] at h
              have HCV : Hid (∀ W, HashX W b (contL (k + 1) j) → HashX W b (if j < j + 1 then contL (k + 1) j else contL k j)) := fun W h => by
                rw [if_pos (Nat.lt_succ_self j)]
                exact h
              have HNE : Hid (∀ q, q ≠ j → (if q < j + 1 then contL (k + 1) q else contL k q) = (if q < j then contL (k + 1) q else contL k q)) := fun q hq => by
                by_cases h1 : q < j
                · rw [if_pos h1, if_pos (by omega)]
                · rw [if_neg h1, if_neg (by omega)]
              have HW := WriteX_any _ b _ (.slice (some ⟨wr.heap.size, 0, none⟩) 3 3) [(j : Int) % 256, (j : Int) / 256, (k : Int)] (HV.out _ HCa.out.kept) hHa (row_bytes_any (ys := [(j : Int) % 256, (j : Int) / 256, (k : Int)]) (heap_alloc_new wr _)) (three_bytes _ _ _ (by omega) (by omega) (by omega)) (fun q hq _ => apart_ne' (HC.out.lt b (List.mem_of_getElem? hb)) q hq) (by simp) (by rw [contL_len]; omega)
              rw [← contL_succ] at HW
              have HBJ : Hid (hs[j]? = some b) := hb
              clear hb hHa
              go_wp2_with (go_at_call 9; refine HW.mono ?_; rintro e w3 ⟨rfl, hH3, hk3⟩
                           have HC3 : Hid (Crowd w w3 bx (.slice (some ⟨g, 0, none⟩) i gcap) hs (fun q => if q < j + 1 then contL (k + 1) q else contL k q)) := HCa.out.write HBJ.out hk3 (HCV.out _ hH3) HNE.out
                           clear hH3 hk3 HW)
              go_roundw
              case rel => exact ⟨j + 1, by omega, by go_num, HC3⟩
              case measure => simp [intOf]; omega
            · obtain rfl : j = i := by omega
              have HC2 : Hid (Crowd w wr bx (.slice (some ⟨g, 0, none⟩) j gcap) hs (contL (k + 1))) := HC.out.more (fun q hq => (if_pos (by have := HSL.out; omega)).symm)
              clear HC
              go_wp2
              go_roundw
              case rel => exact ⟨k + 1, by omega, by go_num, HC2⟩
              case measure => simp [intOf]; omega
        · obtain rfl : k = 2 := by omega
          rw [show ((2 : Nat) : Int) = 2 from rfl]
          obtain ⟨b0, hb0⟩ := HG.out 0 (by omega)
          have HB0 : Hid (hs[0]? = some b0) := hb0
          have HD1 : Hid (∀ W cont, Crowd w W bx (.slice (some ⟨g, 0, none⟩) i gcap) hs cont → W.cell? ⟨g, 0, none⟩ = some (.pointer (some ⟨b0, 0, none⟩)) ∧ W.cell? ⟨w.heap.size, 1, none⟩ = some (.slice ao xs.length cap)) := fun W cont c => ⟨c.cell' HSL.out HB0.out, by
            rw [cell_of_row _ _ _ _ _ _ c.box, HBX.out]
            rfl⟩
          obtain ⟨d0, d1⟩ := HD1.out wr _ HC.out
          have HCd : Hid (Crowd w wr.drew bx (.slice (some ⟨g, 0, none⟩) i gcap) hs (contL 2)) := HC.out.next (Kept.refl [] wr).drew
          have HW7 := WriteX_any wr.drew b0 (contL 2 0) (.slice ao xs.length cap) xs (HV.out _ HCd.out.kept) (HCd.out.hash 0 b0 hb0) (hx.kept' HCd.out.kept (by simp)) hox (fun q hq hne => by
            have h1 := hx.lt q hq hne
            have h2 := HC.out.old b0 (List.mem_of_getElem? hb0)
            omega) (by omega) (by rw [contL_len]; omega)
          have HCV : Hid (∀ W, HashX W b0 (contL 2 0 ++ xs) → HashX W b0 (contL 2 0 ++ (if 0 = 0 then xs else []))) := fun W h => h
          have HNE : Hid (∀ q, q ≠ 0 → contL 2 q ++ (if q = 0 then xs else []) = contL 2 q) := fun q hq => by rw [if_neg hq, List.append_nil]
          clear hb0
          go_wp2
          go_region_held (fun W => W.cell? ⟨g, 0, none⟩ = some (.pointer (some ⟨b0, 0, none⟩)) ∧ W.cell? ⟨w.heap.size, 1, none⟩ = some (.slice ao xs.length cap)) (first | exact HS7.out | go_keep) (first
            | (go_at_call 9; refine HW7.mono ?_; rintro e w7 ⟨rfl, hH7, hk7⟩
               have HC7 : Hid (Crowd w w7 bx (.slice (some ⟨g, 0, none⟩) i gcap) hs (fun q => contL 2 q ++ (if q = 0 then xs else []))) := HCd.out.write HB0.out hk7 (HCV.out _ hH7) HNE.out
               have HS7 : Hid (w7.cell? ⟨g, 0, none⟩ = some (.pointer (some ⟨b0, 0, none⟩)) ∧ w7.cell? ⟨w.heap.size, 1, none⟩ = some (.slice ao xs.length cap)) := HD1.out _ _ HC7.out
               clear hH7 hk7 HW7))
          go_wp2
          clear HS7 HCd HC d0 d1 HCV HNE
          go_loopw [9] (fun s9 wr => ∃ j : Nat, j ≤ i ∧ s9 = .int .i64 j ∧ Hid (Crowd w wr bx (.slice (some ⟨g, 0, none⟩) i gcap) hs (fun q => contL 2 q ++ (if q = 0 then xs else [])))) (fun s9 _ => i - (intOf s9).toNat)
          case atStart => exact ⟨0, Nat.zero_le _, rfl, HC7⟩
          case round =>
            clear HC7
            obtain ⟨j, hj, rfl, HC⟩ := hrel
            by_cases hji : j < i
            · have hdj : decide ((j : Int) < (i : Int)) = true := decide_eq_true (by omega)
              obtain ⟨b, hb⟩ := HG.out j hji
              have HB : Hid (hs[j]? = some b) := hb
              clear hb
              by_cases hj0 : j = 0
              · subst hj0
                rw [show ((0 : Nat) : Int) = 0 from rfl] at hdj ⊢
                obtain rfl : b = b0 := Option.some.inj (HB.out.symm.trans HB0.out)
                have HX0 : Hid (∀ W, Kept [] wr W → HashX W b ([0, 0, 0, 0, 0, 1] ++ xs)) := fun W hk => (HC.out.hash 0 b HB.out).kept hk (by simp)
                obtain ⟨ic, hic⟩ : ∃ ic, ic = idC (digL ([0, 0, 0, 0, 0, 1] ++ xs)) := ⟨_, rfl⟩
                have heq : ∀ W, (Op.equalIn 10000 29 (.agg ic) (.agg ic)).run Tryd.prog W = .ok true W := fun W => by rw [hic, idEq _ _ W (digL_len _) (digL_len _), decide_eq_true rfl]
                have HSM : Hid (∀ W, Kept [] wr W → Calls Tryd.prog 13 #[.pointer (some ⟨b, 0, none⟩)] W fun e w' => e = .returned (.agg ic) ∧ Kept [] W w') := by
                  rw [hic]
                  exact fun W hW => SumX_any W b _ (HV.out W (HC.out.kept.then hW)) (HX0.out W hW)
                have HSB : Hid (∀ W v, Kept [] wr W → BytesAt W v ([0, 0, 0, 0, 0, 1] ++ xs) → Calls Tryd.prog 12 #[v] W fun e w' => e = .returned (.agg ic) ∧ Kept [] W w') := by
                  rw [hic]
                  exact fun W v hW hv => Sum_any W v _ (HV.out W (HC.out.kept.then hW)) hv (by
                    intro u hu
                    rcases List.mem_append.1 hu with h | h
                    · simp at h; omega
                    · exact hox u h) (by simp; omega)
                have HOW : Hid (OwnB (wr.alloc (.cells #[.int .u8 0, .int .u8 0, .int .u8 0, .int .u8 0, .int .u8 0, .int .u8 1] 5)) wr.heap.size (.slice (some ⟨wr.heap.size, 0, none⟩) 6 6) [0, 0, 0, 0, 0, 1]) :=
                  World.ownsRow_lit (base := wr.heap.size) (e := 5) (size := 1) wr #[.int .u8 0, .int .u8 0, .int .u8 0, .int .u8 0, .int .u8 0, .int .u8 1] 6 (Nat.le_refl _) (by unfold maxLen; omega) (by simp)
                have HXB : Hid (∀ W, Kept [] wr W → BytesAt W (.slice ao xs.length cap) xs) := fun W hW => hx.kept' (HC.out.kept.then hW) (by simp)
                obtain ⟨d0, d1⟩ := HD1.out wr _ HC.out
                have hbl : w.heap.size < wr.heap.size := lt_of_block HC.out.box
                have hl6 : ([0, 0, 0, 0, 0, 1] : List Int).length + xs.length ≤ 140737488355328 := by show 6 + _ ≤ _; omega
                have hb6 : wr.heap.size ≤ (wr.alloc (.cells #[.int .u8 0, .int .u8 0, .int .u8 0, .int .u8 0, .int .u8 0, .int .u8 1] 5)).heap.size := by simp
                clear hic
                go_wp2_with (first
                  | (at_builtin; refine wpList_append_bytes rfl (.tmp 73) (.tmp 75) rfl rfl HOW.out rfl (HXB.out _ ((Kept.refl [] wr).alloc _)) hl6 hb6 ?_; intro v' w8 ha8
                     have HK8 : Hid (Kept [] wr w8) := ha8.keep wr [] ((Kept.refl [] wr).alloc _) (fun k hk => Or.inr (by cases hk; exact Nat.le_refl _))
                     have HV8 : Hid (BytesAt w8 v' ([0, 0, 0, 0, 0, 1] ++ xs)) := ha8.own.bytes
                     have HL8 : Hid (∀ k, v'.ownBlock = some k → wr.heap.size ≤ k) := fun k hk => (World.ownsRow.lt ha8.own k hk).1
                     obtain ⟨e0, e1⟩ := HD1.out w8 _ (HC.out.next HK8.out)
                     have HS8 := HSM.out w8 HK8.out
                     clear ha8)
                  | (go_at_call 13; refine HS8.mono ?_; rintro e w9 ⟨rfl, hk9⟩
                     have HK9 : Hid (Kept [] wr w9) := HK8.out.then hk9
                     have HB9 := HSB.out w9 v' HK9.out (HV8.out.kept' hk9 (by simp))
                     clear hk9 HS8)
                  | (go_at_call 12; refine HB9.mono ?_; rintro e w10 ⟨rfl, hk10⟩
                     have HK10 : Hid (Kept [] wr w10) := HK9.out.then hk10
                     clear hk10 HB9))
                go_roundw
                case rel => exact ⟨1, by omega, rfl, HC.out.next HK10.out⟩
                case measure => simp [intOf]; omega
              · have hjb : ((j : Int) == 0) = false := by rw [beq_eq_false_iff_ne]; omega
                obtain ⟨lt6, hlt6⟩ : ∃ lt6 : List Int, lt6 = [(j : Int) % 256, (j : Int) / 256, 0, (j : Int) % 256, (j : Int) / 256, 1] := ⟨_, rfl⟩
                have HX0 : Hid (∀ W, Kept [] wr W → HashX W b lt6) := fun W hk => by
                  have h := (HC.out.hash j b HB.out).kept hk (by simp)
                  rw [if_neg hj0, List.append_nil] at h
                  rw [hlt6]
                  exact h
                obtain ⟨ic, hic⟩ : ∃ ic, ic = idC (digL lt6) := ⟨_, rfl⟩
                have heq : ∀ W, (Op.equalIn 10000 29 (.agg ic) (.agg ic)).run Tryd.prog W = .ok true W := fun W => by rw [hic, idEq _ _ W (digL_len _) (digL_len _), decide_eq_true rfl]
                have HSM := SumX_any (wr.alloc (.cells #[.int .u8 ((j : Int) % 256), .int .u8 ((j : Int) / 256), .int .u8 0, .int .u8 ((j : Int) % 256), .int .u8 ((j : Int) / 256), .int .u8 1] 5)) b lt6 (HV.out _ (HC.out.kept.alloc _)) (HX0.out _ ((Kept.refl [] wr).alloc _))
                rw [← hic] at HSM
                have HSB : Hid (∀ W v, Kept [] wr W → BytesAt W v lt6 → Calls Tryd.prog 12 #[v] W fun e w' => e = .returned (.agg ic) ∧ Kept [] W w') := by
                  rw [hic]
                  exact fun W v hW hv => Sum_any W v _ (HV.out W (HC.out.kept.then hW)) hv (by
                    rw [hlt6]
                    intro u hu
                    simp at hu
                    omega) (by rw [hlt6]; simp)
                have HBT : Hid (BytesAt (wr.alloc (.cells #[.int .u8 ((j : Int) % 256), .int .u8 ((j : Int) / 256), .int .u8 0, .int .u8 ((j : Int) % 256), .int .u8 ((j : Int) / 256), .int .u8 1] 5)) (.slice (some ⟨wr.heap.size, 0, none⟩) 6 6) lt6) := by
                  rw [hlt6]
                  exact row_bytes_any (ys := [(j : Int) % 256, (j : Int) / 256, 0, (j : Int) % 256, (j : Int) / 256, 1]) (heap_alloc_new wr _)
                have cb := HC.out.cell' HSL.out HB.out
                have hgl : g < wr.heap.size := World.block_lt_of_cell? wr _ cb
                clear hic hlt6
                go_wp2_with (first
                  | (go_at_call 13; refine HSM.mono ?_; rintro e w9 ⟨rfl, hk9⟩
                     have HK9 : Hid (Kept [] wr w9) := ((Kept.refl [] wr).alloc _).then hk9
                     have HB9 := HSB.out w9 _ HK9.out (HBT.out.kept' hk9 (by simp))
                     clear hk9 HSM)
                  | (go_at_call 12; refine HB9.mono ?_; rintro e w10 ⟨rfl, hk10⟩
                     have HK10 : Hid (Kept [] wr w10) := HK9.out.then hk10
                     clear hk10 HB9))
                go_roundw
                case rel => exact ⟨j + 1, by omega, by go_num, HC.out.next HK10.out⟩
                case measure => simp [intOf]; omega
            · obtain rfl : j = i := by omega
              have HR := right2_any wr (HV.out wr HC.out.kept)
              go_wp2_with (go_at_call 10; refine HR.mono ?_; rintro e w8 ⟨rfl, hk8⟩)
              go_ret
              exact ⟨rfl, HC.out.kept.then hk8⟩
end Go.Proofs.YtbhhkonhoknifaaDoor
