/-
  WALK: satchelref2.Sum.
-/
import Derived.Test.YtfcoeinhfdbcgaaGreatDoorCpW
namespace Go.Proofs.YtfcoeinhfdbcgaaGreatDoor
open Go.RowKit

theorem low64 (x : Nat) (h : x < 4294967296) : bits .xor .u64 (bits .xor .u64 ((rotN x 7 : Nat) : Int) ((rotN x 18 : Nat) : Int)) ((x : Int) / 8) = ((lowN x : Nat) : Int) := by
  rw [show ((x : Int) / 8) = ((x / 8 : Nat) : Int) by omega, xor64 (rotN_lt _ _) (rotN_lt _ _), xor64 (xor_lt32 (rotN_lt _ _) (rotN_lt _ _)) (by omega)]; rfl
theorem high64 (x : Nat) (h : x < 4294967296) : bits .xor .u64 (bits .xor .u64 ((rotN x 17 : Nat) : Int) ((rotN x 19 : Nat) : Int)) ((x : Int) / 1024) = ((highN x : Nat) : Int) := by
  rw [show ((x : Int) / 1024) = ((x / 1024 : Nat) : Int) by omega, xor64 (rotN_lt _ _) (rotN_lt _ _), xor64 (xor_lt32 (rotN_lt _ _) (rotN_lt _ _)) (by omega)]; rfl
theorem sum4_64 {h y l z : Nat} (h1 : h < 4294967296) (h2 : y < 4294967296) (h3 : l < 4294967296) (h4 : z < 4294967296) :
    bits .and .u64 (IntKind.u64.wrap (IntKind.u64.wrap (IntKind.u64.wrap ((h : Int) + y) + l) + z)) 4294967295 = (((h + y + l + z) % 4294967296 : Nat) : Int) := by
  have e : IntKind.u64.wrap (IntKind.u64.wrap (IntKind.u64.wrap ((h : Int) + y) + l) + z) = ((h + y + l + z : Nat) : Int) := by
    simp only [IntKind.wrap_u64]; omega
  rw [e, mask64 _ (by omega)]
theorem add64 (x y : Nat) (hx : x < 4294967296) (hy : y < 4294967296) : bits .and .u64 (IntKind.u64.wrap ((x : Int) + y)) 4294967295 = (((x + y) % 4294967296 : Nat) : Int) := by
  have e : IntKind.u64.wrap ((x : Int) + y) = ((x + y : Nat) : Int) := by rw [IntKind.wrap_u64]; omega
  rw [e, mask64 _ (by omega)]
theorem add64' (x y : Nat) (hx : x < 4294967296) (hy : y < 4294967296) : bits .and .u64 ((x : Int) + y) 4294967295 = (((x + y) % 4294967296 : Nat) : Int) := by
  rw [← Int.natCast_add, mask64 _ (by omega)]
theorem addN_eq (a b c d e f g h a' b' c' d' e' f' g' h' : Nat) : addN ⟨a, b, c, d, e, f, g, h⟩ ⟨a', b', c', d', e', f', g', h'⟩ = ⟨(a + a') % 4294967296, (b + b') % 4294967296, (c + c') % 4294967296, (d + d') % 4294967296, (e + e') % 4294967296, (f + f') % 4294967296, (g + g') % 4294967296, (h + h') % 4294967296⟩ := rfl
theorem castL_mk (a b c d e f g h : Nat) : castL ⟨a, b, c, d, e, f, g, h⟩ = [(a : Int), b, c, d, e, f, g, h] := rfl
theorem addN_at (s t : EightN) (hs : s.Ok) (ht : t.Ok) (j : Nat) (hj : j < 8) : ∃ x y : Nat, at0 (castL s) j = x ∧ at0 (castL t) j = y ∧ at0 (castL (addN s t)) j = (((x + y) % 4294967296 : Nat) : Int) ∧ x < 4294967296 ∧ y < 4294967296 := by
  obtain ⟨a, b, c, d, e, f, g, h⟩ := s
  obtain ⟨a', b', c', d', e', f', g', h'⟩ := t
  rw [addN_eq, castL_mk, castL_mk, castL_mk]
  match j, hj with
  | 0, _ => exact ⟨a, a', rfl, rfl, by simp only [at0, List.getElem?_cons_zero, Option.getD_some], hs.a, ht.a⟩
  | 1, _ => exact ⟨b, b', rfl, rfl, by simp only [at0, List.getElem?_cons_zero, List.getElem?_cons_succ, Option.getD_some], hs.b, ht.b⟩
  | 2, _ => exact ⟨c, c', rfl, rfl, by simp only [at0, List.getElem?_cons_zero, List.getElem?_cons_succ, Option.getD_some], hs.c, ht.c⟩
  | 3, _ => exact ⟨d, d', rfl, rfl, by simp only [at0, List.getElem?_cons_zero, List.getElem?_cons_succ, Option.getD_some], hs.d, ht.d⟩
  | 4, _ => exact ⟨e, e', rfl, rfl, by simp only [at0, List.getElem?_cons_zero, List.getElem?_cons_succ, Option.getD_some], hs.e, ht.e⟩
  | 5, _ => exact ⟨f, f', rfl, rfl, by simp only [at0, List.getElem?_cons_zero, List.getElem?_cons_succ, Option.getD_some], hs.f, ht.f⟩
  | 6, _ => exact ⟨g, g', rfl, rfl, by simp only [at0, List.getElem?_cons_zero, List.getElem?_cons_succ, Option.getD_some], hs.g, ht.g⟩
  | 7, _ => exact ⟨h, h', rfl, rfl, by simp only [at0, List.getElem?_cons_zero, List.getElem?_cons_succ, Option.getD_some], hs.h, ht.h⟩
theorem list_of_at0 {l l' : List Int} (h : l.length = l'.length) (ha : ∀ j, j < l.length → at0 l j = at0 l' j) : l = l' := by
  refine List.ext_getElem h fun j h1 h2 => ?_
  have := ha j h1
  simpa [at0, List.getElem?_eq_getElem h1, List.getElem?_eq_getElem h2] using this
theorem VarsR.lt {w : World} (h : VarsR w) : 0 < w.heap.size ∧ 4 < w.heap.size := by
  obtain ⟨_, _, h0⟩ := h.first
  obtain ⟨_, _, h1⟩ := h.turn
  exact ⟨lt_of_block h0, lt_of_block h1⟩

set_option maxRecDepth 100000 in
set_option maxHeartbeats 4000000 in
theorem RSum_any (w : World) (hR : VarsR w) (v : Value) (xs : List Int) (hx : BytesAt w v xs) (ho : Octs xs) (hn : xs.length ≤ 1000000000000) :
    Calls Tryz.prog 40 #[v] w fun e w' => e = .returned (.agg (idC (digL xs))) ∧ Kept [] w w' := by
  have HP := fun W (hk : Kept [] w W) => Padded_any W v xs (hx.kept' hk (by simp)) ho hn
  have HRW : Hid (∀ W, Kept [] w W → VarsR W) := fun W hk => hR.kept hk (by simp) (by simp)
  have hmk := run_make_row' (P := Tryz.prog) 117 31 (.int .u64 0) 8 Tryz.underlying117 Tryz.info_u64 rfl .i64 .i64 64 (by omega) (by omega)
  rw [show ((64 : Nat) : Int) = 64 from rfl] at hmk
  have HPL : Hid ((padR xs).length % 64 = 0 ∧ (padR xs).length ≤ xs.length + 72) := padR_len xs
  have HPO : Hid (Octs (padR xs)) := padR_octs xs ho
  have HD : Hid (digL xs = outK (castL (hashN (padR xs) ((padR xs).length / 64) firstN)) 32) := digL_ref xs ho hn
  have HPP : Hid (64 ≤ (padR xs).length) := by
    have h1 : (padR xs).length = xs.length + 1 + zerosN xs.length + 8 := by simp [padR, headL, lastL]; omega
    have := padR_len xs
    show 64 ≤ _
    omega
  obtain ⟨PP, hPP⟩ : ∃ PP, PP = padR xs := ⟨_, rfl⟩
  rw [← hPP] at HPL HPO HD HP HPP
  obtain ⟨T, hT⟩ : ∃ T : Nat → EightN, T = fun b => hashN PP b firstN := ⟨_, rfl⟩
  have T0 : Hid (T 0 = firstN) := by rw [hT]; exact (rfl : hashN PP 0 firstN = firstN)
  have TS : Hid (∀ b, T (b + 1) = addN (T b) (turnsN (sched (mW PP b)) (T b) 64)) := by rw [hT]; exact fun b => hashN_succ PP b firstN
  have TO : Hid (∀ b, (T b).Ok) := by rw [hT]; exact fun b => hashN_ok PP b firstN firstN_ok
  have TD : Hid (digL xs = outK (castL (T (PP.length / 64))) 32) := by rw [hT]; exact HD.out
  have hML : Hid (∀ b t, mW PP b t < 4294967296) := fun b t => mW_lt HPO.out b t
  have hMC : Hid (∀ b t, ((mW PP b t : Nat) : Int) = accL PP (64 * b + 4 * t) 4) := fun b t => mW_cast HPO.out b t
  clear HD hT
  obtain ⟨ao, cap, rfl, hc, _, _⟩ := id hx
  clear hx ho hR hPP
  go_enter Tryz.func40, Tryz.ntmps40
  have HPa := HP (w.alloc (.cells (idC zid) 29)) ((Kept.refl [] w).alloc _)
  clear HP
  have hszH : (Tryz.prog.info? 119).map (·.size) = some (uC firstL).size := Tryz.infoU8
  go_wp2_with (first
    | (go_at_call 68; refine HPa.mono ?_; rintro e w1 ⟨u, rfl, hu, hk1⟩
       have HI1 : Hid (w1.heap[w.heap.size]? = some (.cells (idC zid) 29 (0, 0))) := hk1.heap (heap_alloc_new w _) (by simp)
       have HK1 : Hid (Kept [] w w1) := ((Kept.refl [] w).alloc _).then hk1
       obtain ⟨N, hN⟩ : ∃ N, N = PP.length / 4 := ⟨_, rfl⟩
       rw [← hN] at hu
       have HN : Hid (N = PP.length / 4) := hN
       obtain ⟨g, c, hgv, hg1, hg2, hg3, hg4⟩ := hu.parts (fun h0 => by
         have h1 := congrArg List.length h0
         rw [wordsL_len] at h1
         have := HPL.out
         have := HPP.out
         simp at h1
         omega)
       rw [wordsL_len] at hgv hg3
       subst hgv
       have HG4 : Hid (∀ W, Kept [] w1 W → ∀ i, i < N → W.cell? ⟨g, i, none⟩ = some (.int .u64 (accL PP (4 * i) 4))) := fun W hW i hi => by
         rw [wordsL_len] at hg4
         have h := hg4 i hi
         rw [wordsL_at _ _ _ hi] at h
         exact hW.cell h (by simp)
       obtain ⟨ty, fr, h0⟩ := (HRW.out w1 HK1.out).first
       have H0 : Hid (∀ o, (w1.alloc o).heap[0]? = some (.cells (uC firstL) ty fr)) := fun o => (Below.heap_alloc _ _ _ (lt_of_block h0)).trans h0
       have H1 : Hid (w1.heap[0]? = some (.cells (uC firstL) ty fr)) := h0
       clear hN hk1 hu hg4 h0)
    | (refine wpList_load_row rfl 119 (.global 0) rfl 0 rfl ty #[.int .u64 1779033703, .int .u64 3144134277, .int .u64 1013904242, .int .u64 2773480762, .int .u64 1359893119, .int .u64 2600822924, .int .u64 528734635, .int .u64 1541459225] fr _ H1.out Tryz.underlying119 rfl hszH ?_)
    | (refine wpList_load_row rfl 119 (.global 0) rfl 0 rfl ty #[.int .u64 1779033703, .int .u64 3144134277, .int .u64 1013904242, .int .u64 2773480762, .int .u64 1359893119, .int .u64 2600822924, .int .u64 528734635, .int .u64 1541459225] fr _ (H0.out _) Tryz.underlying119 rfl hszH ?_))
  have hI2 : Hid (((w1.alloc (.cells (uC firstL) 119)).alloc (.cells (madeCells #[.int .u64 0] 64) 31)).heap[w1.heap.size + 1]? = some (.cells (uC (List.replicate 64 0)) 31 (0, 0))) := by
    have e : madeCells #[Value.int .u64 0] 64 = uC (List.replicate 64 0) := by unfold uC; rw [List.map_replicate, ← toList_madeCells_one]
    rw [e]; exact heap_alloc2_new w1 _ _
  have hI1 : Hid (((w1.alloc (.cells (uC firstL) 119)).alloc (.cells (madeCells #[.int .u64 0] 64) 31)).heap[w1.heap.size]? = some (.cells (uC firstL) 119 (0, 0))) := (Below.heap_alloc _ _ _ (by simp)).trans (heap_alloc_new w1 _)
  have hw1 : w.heap.size < w1.heap.size := lt_of_block HI1.out
  go_loopw [6] (fun cc wr => ∃ (b p : Nat) (ws : List Int), Hid (p = 16 * b) ∧ p ≤ N ∧ cc = .int .i64 p ∧ Hid (ws.length = 64) ∧ Hid (wr.heap[w1.heap.size]? = some (.cells (uC (castL (T b))) 119 (0, 0))) ∧ Hid (wr.heap[w1.heap.size + 1]? = some (.cells (uC ws) 31 (0, 0))) ∧ Hid (Kept [] w1 wr)) (fun cc _ => N - (intOf cc).toNat)
  case atStart => exact ⟨0, 0, List.replicate 64 0, (rfl : 0 = 16 * 0), Nat.zero_le _, rfl, (List.length_replicate : _ = _), by rw [T0.out]; exact hI1, hI2, ((Kept.refl [] w1).alloc _).alloc _⟩
  case round =>
    obtain ⟨b, p, ws, HP, hpN, rfl, HWL, HH, HW, HK⟩ := hrel
    clear hI1 hI2 H0 H1
    obtain ⟨wa, hwa⟩ : ∃ wa, wa = wr := ⟨_, rfl⟩
    subst wr
    by_cases hlt : p < N
    · have hd : decide ((p : Int) < (N : Int)) = true := decide_eq_true (by omega)
      have hp16 : p + 16 ≤ N := by have := HP.out; have := HN.out; have := HPL.out; omega
      have hNm : N ≤ 1000000000100 := by have := HN.out; have := HPL.out; omega
      have hcs1 : ((ws.map (Value.int .u64)).take 16).length = 16 := by have := HWL.out; simp; omega
      have HS16 : Hid (∀ j v, ((List.range 16).map fun t => Value.int .u64 ((mW PP b t : Nat) : Int))[j]? = some v → wa.cell? ((⟨g, p, none⟩ : Addr).add j) = some v) := by
        intro j v hv
        have hj : j < 16 := by
          have := (List.getElem?_eq_some_iff.1 hv).1
          simpa using this
        rw [List.getElem?_map, List.getElem?_range hj, Option.map_some] at hv
        cases hv
        have h := HG4.out wa HK.out (p + j) (by omega)
        rw [Addr.add_mid, h, hMC.out, HP.out, show 4 * (16 * b + j) = 64 * b + 4 * j by omega]
      obtain ⟨cs, hcs⟩ : ∃ cs, cs = (List.range 16).map fun t => Value.int .u64 ((mW PP b t : Nat) : Int) := ⟨_, rfl⟩
      have hcl : cs.length = 16 := by rw [hcs]; simp
      have hco : ∀ v ∈ cs, v.oneCell' = true := by
        rw [hcs]
        intro v hv
        obtain ⟨t, _, rfl⟩ := List.mem_map.1 hv
        rfl
      rw [← hcs] at HS16
      obtain ⟨ws2, hws2⟩ : ∃ ws2, ws2 = ((List.range 16).map fun t => ((mW PP b t : Nat) : Int)) ++ ws.drop 16 := ⟨_, rfl⟩
      have HSP : Hid ((splice (ws.map (Value.int .u64)) 0 cs).toArray = uC ws2) := by
        show _ = _
        unfold splice uC
        rw [hcl, hws2, hcs]
        simp [Function.comp_def]
      obtain ⟨F, hF⟩ : ∃ F, F = sched (mW PP b) := ⟨_, rfl⟩
      have HF : Hid (F = sched (mW PP b)) := hF
      have HFL : Hid (∀ t, F t < 4294967296) := by rw [hF]; exact fun t => sched_lt _ (fun t _ => hML.out b t) t
      have HFN : Hid (∀ t, ¬ t < 16 → F t = (highN (F (t - 2)) + F (t - 7) + lowN (F (t - 15)) + F (t - 16)) % 4294967296) := by rw [hF]; exact fun t ht => sched_next _ t ht
      have HL2 : Hid (ws2.length = 64) := by show _ = _; rw [hws2]; have := HWL.out; simp; omega
      have HA2 : Hid (∀ j, j < 16 → at0 ws2 j = ((F j : Nat) : Int)) := fun j hj => by
        rw [hws2, hF, sched_first _ _ hj]
        unfold at0
        rw [List.getElem?_append_left (by simpa using hj), List.getElem?_map, List.getElem?_range hj]
        rfl
      have hfit : 0 + cs.length ≤ (ws.map (Value.int .u64)).length := by have := HWL.out; simp; omega
      have hmin : cs.length = Nat.min (p + 16 - p) 64 := by rw [hcl, show p + 16 - p = 16 by omega]; rfl
      clear hcs hws2 hF
      go_wp2_with (refine wpList_copy_kept rfl (.tmp 26) (.tmp 31) 117 117 rfl 31 Tryz.underlying117 Tryz.size_u64 _ _ _ _ _ _ rfl rfl (w1.heap.size + 1) 0 (ws.map (Value.int .u64)) 31 HW.out cs hmin (fun _ => ⟨rfl, _, rfl, HS16.out⟩) hfit hco ?_
                   intro w4 hB4 hk4
                   have HW4 : Hid (w4.heap[w1.heap.size + 1]? = some (.cells (uC ws2) 31 (0, 0))) := by
                     have h := hB4.out
                     rw [HSP.out] at h
                     exact h
                   have HH4 : Hid (w4.heap[w1.heap.size]? = some (.cells (uC (castL (T b))) 119 (0, 0))) := hk4.heap HH.out (by simp)
                   have HK4 : Hid (Kept [] w1 w4) := HK.out.trans hk4 (fun x hx => Or.inr (by simp at hx; omega))
                   clear hB4 hk4)
      clear HW HH HK HSP HS16 hco hcl hfit hmin hcs1
      go_loopw [7] (fun s7 wr => ∃ (t : Nat) (ws' : List Int), 16 ≤ t ∧ t ≤ 64 ∧ s7 = .int .i64 t ∧ Hid (ws'.length = 64) ∧ Hid (∀ j, j < t → at0 ws' j = ((F j : Nat) : Int)) ∧ Hid (wr.heap[w1.heap.size + 1]? = some (.cells (uC ws') 31 (0, 0))) ∧ Hid (wr.heap[w1.heap.size]? = some (.cells (uC (castL (T b))) 119 (0, 0))) ∧ Hid (Kept [] w1 wr)) (fun s7 _ => 64 - (intOf s7).toNat)
      case atStart => exact ⟨16, ws2, by decide, by decide, rfl, HL2, HA2, HW4, HH4, HK4⟩
      case round =>
        clear HL2 HA2 HW4 HH4 HK4 HWL
        obtain ⟨t, S, ht0, ht1, rfl, HSL, HSA, HW, HH, HK⟩ := hrel
        by_cases hlt : t < 64
        · have hsl := HSL.out
          have c15 := uC_cell HW.out (j := t - 15) (by omega)
          have c2 := uC_cell HW.out (j := t - 2) (by omega)
          have c7 := uC_cell HW.out (j := t - 7) (by omega)
          have c16 := uC_cell HW.out (j := t - 16) (by omega)
          have ct := uC_cell HW.out (j := t) (by omega)
          rw [HSA.out _ (by omega)] at c15 c2 c7 c16
          have ft := frozen_of_row wr (w1.heap.size + 1) t _ _ HW.out
          have HPu : Hid (∀ x, Hid ((wr.setCell ⟨w1.heap.size + 1, t, none⟩ (.int .u64 x)).heap[w1.heap.size + 1]? = some (.cells (uC (S.set t x)) 31 (0, 0)))) := fun x => uC_put HW.out t x
          have hN := HFN.out t (by omega)
          have HNt : Hid (F t = (highN (F (t - 2)) + F (t - 7) + lowN (F (t - 15)) + F (t - 16)) % 4294967296) := hN
          have b15 := HFL.out (t - 15)
          have b2 := HFL.out (t - 2)
          have b7 := HFL.out (t - 7)
          have b16 := HFL.out (t - 16)
          clear hN hsl
          generalize F (t - 15) = x15 at *
          generalize F (t - 2) = x2 at *
          generalize F (t - 7) = x7 at *
          generalize F (t - 16) = x16 at *
          generalize at0 S t = xt at *
          have n15 : (t : Int) - 15 = ((t - 15 : Nat) : Int) := by omega
          have n2 : (t : Int) - 2 = ((t - 2 : Nat) : Int) := by omega
          have n7 : (t : Int) - 7 = ((t - 7 : Nat) : Int) := by omega
          have n16 : (t : Int) - 16 = ((t - 16 : Nat) : Int) := by omega
          have l15 : t - 15 < 64 := by omega
          have l2 : t - 2 < 64 := by omega
          have l7 : t - 7 < 64 := by omega
          have l16 : t - 16 < 64 := by omega
          generalize t - 15 = a15 at *
          generalize t - 2 = a2 at *
          generalize t - 7 = a7 at *
          generalize t - 16 = a16 at *
          have q7 : ∀ W, Calls Tryz.prog 69 #[.int .u64 (x15 : Int), .int .i64 7] W fun e w' => e = .returned (.int .u64 ((rotN x15 7 : Nat) : Int)) ∧ w' = W := fun W => turn_any x15 7 b15 (by decide) W
          have q18 : ∀ W, Calls Tryz.prog 69 #[.int .u64 (x15 : Int), .int .i64 18] W fun e w' => e = .returned (.int .u64 ((rotN x15 18 : Nat) : Int)) ∧ w' = W := fun W => turn_any x15 18 b15 (by decide) W
          have q17 : ∀ W, Calls Tryz.prog 69 #[.int .u64 (x2 : Int), .int .i64 17] W fun e w' => e = .returned (.int .u64 ((rotN x2 17 : Nat) : Int)) ∧ w' = W := fun W => turn_any x2 17 b2 (by decide) W
          have q19 : ∀ W, Calls Tryz.prog 69 #[.int .u64 (x2 : Int), .int .i64 19] W fun e w' => e = .returned (.int .u64 ((rotN x2 19 : Nat) : Int)) ∧ w' = W := fun W => turn_any x2 19 b2 (by decide) W
          have hdt : decide ((t : Int) < 64) = true := decide_eq_true (by omega)
          go_wp2
          go_quiet (fail)
          go_wp2_with (first
            | (go_at_call_of 69 (Value.int .i64 7); refine (q7 _).mono ?_; rintro e w3 ⟨rfl, hw3⟩; subst w3)
            | (go_at_call_of 69 (Value.int .i64 18); refine (q18 _).mono ?_; rintro e w3 ⟨rfl, hw3⟩; subst w3)
            | (go_at_call_of 69 (Value.int .i64 17); refine (q17 _).mono ?_; rintro e w3 ⟨rfl, hw3⟩; subst w3)
            | (go_at_call_of 69 (Value.int .i64 19); refine (q19 _).mono ?_; rintro e w3 ⟨rfl, hw3⟩; subst w3))
          go_region
          go_wp2
          go_roundw
          case rel =>
            refine ⟨t + 1, S.set t ((F t : Nat) : Int), by omega, by omega, by go_num, ?_, ?_, ?_, ?_, ?_⟩
            · show _ = _
              rw [List.length_set]
              exact HSL.out
            · intro j hj
              by_cases hjt : t = j
              · subst hjt
                rw [at0_set_same _ _ _ (by rw [HSL.out]; omega)]
              · rw [at0_set_other _ _ _ _ hjt]
                exact HSA.out j (by omega)
            · rw [high64 _ b2, low64 _ b15, sum4_64 (highN_lt b2) b7 (lowN_lt b15) b16, ← HNt.out]
              exact HPu.out _
            · exact (heap_setCell_other _ _ _ _ (by simp)).trans HH.out
            · exact (HK.out.drewN _).setCell (Or.inr (Nat.le_succ _)) _
          case measure => simp [intOf]; omega
        · obtain rfl : t = 64 := by omega
          rw [show ((64 : Nat) : Int) = 64 from rfl]
          have HS64 : Hid (∀ W, Kept [] wr W → ∀ t, t < 64 → W.cell? ⟨w1.heap.size + 1, t, none⟩ = some (.int .u64 ((F t : Nat) : Int))) := fun W hW t ht => by
            rw [← HSA.out t ht]
            exact hW.cell (uC_cell HW.out (by rw [HSL.out]; exact ht)) (by simp)
          clear ht0 ht1 hlt
          obtain ⟨wq, hwq⟩ : ∃ wq, wq = wr := ⟨_, rfl⟩
          subst wr
          obtain ⟨V, hV⟩ : ∃ V, V = turnsN F (T b) 64 := ⟨_, rfl⟩
          have HTS : Hid (T (b + 1) = addN (T b) V) := by show _ = _; rw [hV, HF.out]; exact TS.out b
          have HVO : Hid (V.Ok) := by rw [hV]; exact turnsN_ok (TO.out b) 64
          have HR := fun W (hW : Kept [] wq W) => round_any W (HRW.out W ((HK1.out.then HK.out).then hW)) (T b) (TO.out b) F (fun t _ => HFL.out t) (w1.heap.size + 1) 64 (HS64.out W hW)
          rw [← hV] at HR
          obtain ⟨C, hC⟩ : ∃ C, C = uC (castL (T b)) := ⟨_, rfl⟩
          obtain ⟨D, hD⟩ : ∃ D, D = uC (castL V) := ⟨_, rfl⟩
          have hszC : (Tryz.prog.info? 119).map (·.size) = some C.size := by rw [hC, uC_size]; exact Tryz.infoU8
          rw [← hC, ← hD] at HR
          have HRR : Hid (∀ W, Kept [] wq W → Calls Tryz.prog 70 #[.agg C, .slice (some ⟨w1.heap.size + 1, 0, none⟩) 64 64] W fun e w' => e = .returned (.agg D) ∧ Kept [] W w') := HR
          have HHC : Hid (wq.heap[w1.heap.size]? = some (.cells C 119 (0, 0))) := by show _ = _; rw [hC]; exact HH.out
          have HC : Hid (C = uC (castL (T b))) := hC
          have HDD : Hid (D = uC (castL V)) := hD
          have hszD : (Tryz.prog.info? 119).map (·.size) = some D.size := by rw [hD, uC_size]; exact Tryz.infoU8
          have hD8 : D.size = 8 := by rw [hD, uC_size]; rfl
          have hallD : D.all (·.oneCell') = true := by rw [hD]; exact all_oneCell_toArray (ints_oneCell .u64 (castL V))
          clear hV HR hC hD hmk hszH
          go_wp2_with (first
            | (refine wpList_load_row rfl 119 (.tmp 4) rfl w1.heap.size rfl 119 C (0, 0) _ HHC.out Tryz.underlying119 rfl hszC ?_)
            | (go_at_call 70; refine (HRR.out _ (Kept.refl [] wq)).mono ?_; rintro e w5 ⟨rfl, hk5⟩
               have HK5 : Hid (Kept [] wq w5) := hk5
               clear hk5)
            | (refine wpList_store_row (by rfl) 119 (.tmp 12) (.tmp 84) (by rfl) w5.heap.size D (by rfl) (by rfl) 119 _ (heap_alloc_new w5 _) hszD ?hs hallD ?_; (case hs => exact hD8.symm); rw [World.setRow_alloc_new]
               have HD6 : Hid ((w5.alloc (.cells D 119)).heap[w5.heap.size]? = some (.cells (uC (castL V)) 119 (0, 0))) := by show _ = _; rw [← HDD.out]; exact heap_alloc_new w5 _
               have HC6 : Hid ((w5.alloc (.cells D 119)).heap[w1.heap.size]? = some (.cells (uC (castL (T b))) 119 (0, 0))) := (HK5.out.alloc _).heap HH.out (by simp)
               have HK6 : Hid (Kept [] w1 (w5.alloc (.cells D 119))) := (HK.out.then HK5.out).alloc _
               have HW6 : Hid ((w5.alloc (.cells D 119)).heap[w1.heap.size + 1]? = some (.cells (uC S) 31 (0, 0))) := (HK5.out.alloc _).heap HW.out (by simp)
               have hw5 : Hid (w1.heap.size + 1 < w5.heap.size) := Nat.lt_of_lt_of_le (lt_of_block HW.out) HK5.out.size
               generalize w5.alloc (.cells D 119) = w6 at *))
          clear HHC hszC HRR hszD hallD hD8
          have hw5' := hw5.out
          obtain ⟨A, hA⟩ : ∃ A, A = castL (T b) := ⟨_, rfl⟩
          obtain ⟨E, hE⟩ : ∃ E, E = castL V := ⟨_, rfl⟩
          obtain ⟨R, hR⟩ : ∃ R, R = castL (T (b + 1)) := ⟨_, rfl⟩
          have HA8 : Hid (A.length = 8 ∧ E.length = 8 ∧ R.length = 8) := by rw [hA, hE, hR]; exact ⟨rfl, rfl, rfl⟩
          have HAT : Hid (∀ j, j < 8 → ∃ x y : Nat, at0 A j = x ∧ at0 E j = y ∧ at0 R j = (((x + y) % 4294967296 : Nat) : Int) ∧ x < 4294967296 ∧ y < 4294967296) := by
            rw [hA, hE, hR, HTS.out]; exact fun j hj => addN_at (T b) V (TO.out b) HVO.out j hj
          rw [← hA] at HC6
          rw [← hE] at HD6
          have HRE : Hid (R = castL (T (b + 1))) := hR
          have HSL' : Hid (S.length = 64) := HSL
          clear hA hE hR HC HDD HTS HVO HH HK HW HSA HSL HS64 HK5
          go_loopw [13] (fun s13 wr => ∃ (i : Nat) (h : List Int), i ≤ 8 ∧ s13 = .int .i64 i ∧ Hid (h.length = 8) ∧ Hid (∀ j, j < i → at0 h j = at0 R j) ∧ Hid (∀ j, i ≤ j → j < 8 → at0 h j = at0 A j) ∧ Hid (wr.heap[w1.heap.size]? = some (.cells (uC h) 119 (0, 0))) ∧ Hid (wr.heap[w5.heap.size]? = some (.cells (uC E) 119 (0, 0))) ∧ Hid (wr.heap[w1.heap.size + 1]? = some (.cells (uC S) 31 (0, 0))) ∧ Hid (Kept [] w1 wr)) (fun s13 _ => 8 - (intOf s13).toNat)
          case atStart => exact ⟨0, A, Nat.zero_le _, rfl, HA8.out.1, (fun j hj => absurd hj (Nat.not_lt_zero j)), (fun j _ _ => rfl), HC6, HD6, HW6, HK6⟩
          case round =>
            obtain ⟨i, h, hi, rfl, HL, H1, H2, HX, HE, HS, HK⟩ := hrel
            by_cases hlt8 : i < 8
            · have hdi : decide ((i : Int) < 8) = true := decide_eq_true (by omega)
              have hhl := HL.out
              have hel := HA8.out.2.1
              obtain ⟨x, y, e1, e2, e3, b1, b2⟩ := HAT.out i hlt8
              have c1 := uC_cell HX.out (j := i) (by omega)
              have c2 := uC_cell HE.out (j := i) (by omega)
              rw [H2.out i (Nat.le_refl _) hlt8, e1] at c1
              rw [e2] at c2
              have f1 := frozen_of_row wr w1.heap.size i _ _ HX.out
              have HPu : Hid (∀ x, Hid ((wr.setCell ⟨w1.heap.size, i, none⟩ (.int .u64 x)).heap[w1.heap.size]? = some (.cells (uC (h.set i x)) 119 (0, 0)))) := fun x => uC_put HX.out i x
              have E3 : Hid (at0 R i = (((x + y) % 4294967296 : Nat) : Int)) := e3
              have hV64 := add64 x y b1 b2
              have HV64 : Hid (bits .and .u64 (IntKind.u64.wrap ((x : Int) + y)) 4294967295 = (((x + y) % 4294967296 : Nat) : Int)) := hV64
              clear e1 e2 e3 hV64 hhl hel
              go_wp2
              go_region
              go_wp2
              go_roundw
              case rel =>
                refine ⟨i + 1, h.set i (at0 R i), by omega, by go_num, ?_, ?_, ?_, ?_, ?_, ?_, ?_⟩
                · show _ = _
                  rw [List.length_set]; exact HL.out
                · intro j hj
                  by_cases hji : i = j
                  · subst hji
                    rw [at0_set_same _ _ _ (by rw [HL.out]; omega)]
                  · rw [at0_set_other _ _ _ _ hji]
                    exact H1.out j (by omega)
                · intro j hj hj8
                  rw [at0_set_other _ _ _ _ (by omega)]
                  exact H2.out j (by omega) hj8
                · first
                    | (rw [HV64.out, ← E3.out]; exact HPu.out _)
                    | (rw [add64' x y b1 b2, ← E3.out]; exact HPu.out _)
                · exact (heap_setCell_other _ _ _ _ (by simp; omega)).trans HE.out
                · exact (heap_setCell_other _ _ _ _ (by simp)).trans HS.out
                · first | exact (HK.out.drewN _).setCell (Or.inr (Nat.le_refl _)) _ | exact (HK.out.setCell (Or.inr (Nat.le_refl _)) _).drew | exact (HK.out.drew).setCell (Or.inr (Nat.le_refl _)) _
              case measure => simp [intOf]; omega
            · obtain rfl : i = 8 := by omega
              rw [show ((8 : Nat) : Int) = 8 from rfl]
              have HhR : Hid (h = castL (T (b + 1))) := by
                show _ = _
                rw [← HRE.out]
                exact list_of_at0 (by rw [HL.out, HA8.out.2.2]) (fun j hj => H1.out j (by rw [HL.out] at hj; exact hj))
              have HX' : Hid (wr.heap[w1.heap.size]? = some (.cells (uC (castL (T (b + 1)))) 119 (0, 0))) := by
                have h' := HX.out
                rw [HhR.out] at h'
                exact h'
              clear HX H1 H2 HE HhR
              go_wp2
              go_roundw
              case rel => exact ⟨b + 1, p + 16, S, (show p + 16 = 16 * (b + 1) by rw [HP.out]; omega), by omega, by go_num, HSL', HX', HS, HK⟩
              case measure => simp [intOf]; omega
    · obtain rfl : p = N := by omega
      have hb : b = PP.length / 64 := by have := HP.out; have := HN.out; have := HPL.out; omega
      subst hb
      have HId : Hid (wa.heap[w.heap.size]? = some (.cells (idC zid) 29 (0, 0))) := HK.out.heap HI1.out (by simp)
      obtain ⟨W, hW⟩ : ∃ W, W = castL (T (PP.length / 64)) := ⟨_, rfl⟩
      have HW8 : Hid (W.length = 8) := by rw [hW]; exact (rfl : (castL (T (PP.length / 64))).length = 8)
      have TD' : Hid (digL xs = outK W 32) := by rw [hW]; exact TD.out
      have HWW : Hid (wa.heap[w1.heap.size]? = some (.cells (uC W) 119 (0, 0))) := by rw [hW]; exact HH.out
      have HWB : Hid (∀ j, j < 8 → ∃ x : Nat, at0 W j = x ∧ x < 4294967296) := by
        rw [hW]
        intro j hj
        obtain ⟨x, y, e1, _, _, e4, _⟩ := addN_at (T (PP.length / 64)) (T (PP.length / 64)) (TO.out _) (TO.out _) j hj
        exact ⟨x, e1, e4⟩
      have HKw : Hid (Kept [] w wa) := HK1.out.then HK.out
      clear hW HH HW TD HK hmk hszH HWL hlt hpN HP
      have hwa1 : w1.heap.size < wa.heap.size := lt_of_block HWW.out
      go_wp2
      go_loopw [15] (fun s15 wr => ∃ i : Nat, i ≤ 32 ∧ s15 = .int .i64 i ∧ Hid (wr.heap[wa.heap.size]? = some (.cells (idC (outK W i)) 29 (0, 0))) ∧ Hid (wr.heap[w1.heap.size]? = some (.cells (uC W) 119 (0, 0))) ∧ Hid (wr.heap[w.heap.size]? = some (.cells (idC zid) 29 (0, 0))) ∧ Hid (Kept [] w wr)) (fun s15 _ => 32 - (intOf s15).toNat)
      case atStart => exact ⟨0, Nat.zero_le _, rfl, heap_alloc_new wa _, (Below.heap_alloc _ _ _ hwa1).trans HWW.out, (Below.heap_alloc _ _ _ (by omega)).trans HId.out, HKw.out.alloc _⟩
      case round =>
        clear HWW HId HKw
        obtain ⟨i, hi, rfl, H1, H2, H3, HK⟩ := hrel
        by_cases hlt : i < 32
        · have hdi : decide ((i : Int) < 32) = true := decide_eq_true (by omega)
          obtain ⟨x, ex, bx⟩ := HWB.out (i / 4) (by omega)
          have hw8 := HW8.out
          have c1 := uC_cell H2.out (j := i / 4) (by omega)
          rw [ex] at c1
          have hlo := outK_len W i
          have HNx : Hid (outK W (i + 1) = (outK W i).set i ((x : Int) / 2 ^ (24 - 8 * (i % 4)) % 256)) := by
            show _ = _
            rw [outK_succ, outStep, ex, show 8 * (3 - i % 4) = 24 - 8 * (i % 4) by omega]
          have cI : ∃ u, wr.cell? ⟨wa.heap.size, i, none⟩ = some u := by
            rw [cell_of_row _ _ _ _ _ _ H1.out]
            exact ⟨_, Array.getElem?_eq_getElem (by rw [idC_size hlo]; exact hlt)⟩
          obtain ⟨u, cI⟩ := cI
          have fI := frozen_of_row wr wa.heap.size i _ _ H1.out
          have HPu : Hid (∀ z, Hid ((wr.setCell ⟨wa.heap.size, i, none⟩ (.int .u8 z)).heap[wa.heap.size]? = some (.cells (idC ((outK W i).set i z)) 29 (0, 0)))) := fun z => by
            show _ = _
            rw [heap_setCell_same _ _ _ _ _ _ H1.out]
            simp [idC, List.map_set]
          have r1 : Int.tdiv (i : Int) 4 = ((i / 4 : Nat) : Int) := by rw [Int.tdiv_eq_ediv_of_nonneg (by omega)]; omega
          have r2 : Int.tmod (i : Int) 4 = ((i % 4 : Nat) : Int) := by rw [Int.tmod_eq_emod_of_nonneg (by omega)]; omega
          have r3 : (24 : Int) - 8 * ((i % 4 : Nat) : Int) = ((24 - 8 * (i % 4) : Nat) : Int) := by omega
          have r4 : i / 4 < 8 := by omega
          have r5 : 24 - 8 * (i % 4) ≤ 24 := by omega
          have r6 : i % 4 < 4 := by omega
          generalize i / 4 = q at *
          generalize 24 - 8 * (i % 4) = m at *
          generalize i % 4 = rr at *
          clear hw8 hlo ex
          go_wp2
          refine ⟨⟨i + 1, by omega, by go_num, ?_, ?_, ?_, ?_⟩, by simp [intOf]; omega⟩
          · rw [HNx.out]
            exact HPu.out _
          · exact (heap_setCell_other _ _ _ _ (by simp; omega)).trans H2.out
          · exact (heap_setCell_other _ _ _ _ (by simp; omega)).trans H3.out
          · exact HK.out.setCell (Or.inr (by simp; omega)) _
        · obtain rfl : i = 32 := by omega
          rw [show ((32 : Nat) : Int) = 32 from rfl]
          have hlen := outK_len W 32
          obtain ⟨ic, hic⟩ : ∃ ic, ic = idC (outK W 32) := ⟨_, rfl⟩
          have HE : Hid (idC (digL xs) = ic) := by show _ = _; rw [TD'.out, hic]
          have H1' : Hid (wr.heap[wa.heap.size]? = some (.cells ic 29 (0, 0))) := by rw [hic]; exact H1.out
          have hszi : (Tryz.prog.info? 29).map (·.size) = some ic.size := by rw [hic, idC_size hlen]; exact Tryz.infoID
          have halli : ic.all (·.oneCell') = true := by rw [hic]; exact all_oneCell_toArray (map_oneCell _)
          have hosi : (idC zid).size = ic.size := by rw [hic, idC_size hlen]; rfl
          clear hic hlen H1
          go_wp2_with (first
            | (refine wpList_load_row rfl 29 (.tmp 14) rfl wa.heap.size rfl 29 ic (0, 0) _ H1'.out Tryz.underlying29 rfl hszi ?_)
            | (refine wpList_store_row rfl 29 (.tmp 2) (.tmp 116) rfl w.heap.size ic rfl rfl 29 _ H3.out hszi hosi halli ?_))
          refine bodyPost_ret (v := .agg ic) ?_ rfl ⟨by rw [HE.out], kept_setRow HK.out (Nat.le_refl _) _⟩
          rw [results_cell rfl]
          exact run_loadVar_row (P := Tryz.prog) (wr.setRow w.heap.size ic) w.heap.size 29 29 ic (0, 0) _ (setRow_heap _ _ _ _ _ _ H3.out) Tryz.underlying29 rfl hszi
end Go.Proofs.YtfcoeinhfdbcgaaGreatDoor
