/-
  WALK: satchellaw4.StoreFull.
-/
import Derived.Test.YtpdlnmjnpodicaaDoorSk6
namespace Go.Proofs.YtpdlnmjnpodicaaDoor
open Go.RowKit Go.WideMaps

set_option maxRecDepth 100000 in
set_option maxHeartbeats 8000000 in
theorem full_any (sd nn : Int) (w : World) (hV : Vars w) (hn0 : -9223372036854775808 ≤ nn) (hn1 : nn ≤ 9223372036854775807) :
    Calls Tryd.prog 3 #[.agg #[.int .u64 sd, .int .i64 nn]] w fun e w' => e = .returned (.bool true) ∧ Kept [] w w' := by
  obtain ⟨W0, hW0⟩ : ∃ W0, W0 = w.alloc (.cells #[.int .u64 sd, .int .i64 nn] 24) := ⟨_, rfl⟩
  have HW0 : Hid (W0 = w.alloc (.cells #[.int .u64 sd, .int .i64 nn] 24)) := hW0
  have k0 : Kept [] w W0 := by rw [hW0]; exact (Kept.refl _ _).alloc _
  have HK0 : Hid (Kept [] w W0) := k0
  have HS0 : Hid (w.heap.size < W0.heap.size) := by
    show w.heap.size < W0.heap.size
    rw [hW0, World.size_alloc]
    omega
  have HC : Hid (∀ b W, W0.heap.size ≤ b → Kept [b] W0 W → W.cell? ⟨w.heap.size, 0, none⟩ = some (.int .u64 sd) ∧ W.cell? ⟨w.heap.size, 1, none⟩ = some (.int .i64 nn)) := fun b W hb k => by
    have h := k.heap (show W0.heap[w.heap.size]? = _ by rw [hW0]; exact heap_alloc_new w _) (by have := HS0.out; simp; omega)
    exact ⟨by rw [cell_of_row _ _ _ _ _ _ h]; rfl, by rw [cell_of_row _ _ _ _ _ _ h]; rfl⟩
  have HV : Hid (∀ b W, W0.heap.size ≤ b → Kept [b] W0 W → Vars W) := fun b W hb k => by
    have hv0 := hV.kept k0 (by simp) (by simp)
    have hvb := vars_below hv0
    exact hv0.kept k (by simp; omega) (by simp; omega)
  have hnew := New_st W0
  have hinto := fun W => into4_any nn 8201 W (by decide) (by decide) hn0 hn1
  rw [hW0] at hnew
  clear hV k0 hW0
  go_enter Tryd.func3, Tryd.ntmps3
  go_wp2_with fail
  go_at_call 4
  refine hnew.mono ?_
  rintro e w1 ⟨s, b, rfl, hst, hs, hb, k1⟩
  rw [← HW0.out] at hs hb k1
  have HBB : Hid (W0.heap.size ≤ b) := hb
  have hliv := lives4_any w1 (HV.out b w1 hb (k1.more (by simp)))
  have HST1 : Hid (∀ W, Kept [] w1 W → St W s b 0 (.map [])) := fun W k => hst.on k
  have HK1 : Hid (Kept [] W0 w1) := k1
  clear hnew hst k1 hs hb
  go_wp2_with fail
  go_at_call 5
  refine hliv.mono ?_
  rintro e w2 ⟨rfl, k2⟩
  have HST2 : Hid (St w2 s b 0 (.map [])) := HST1.out w2 k2
  have HK2 : Hid (Kept [] W0 w2) := HK1.out.then k2
  obtain ⟨c0, c1⟩ := HC.out b w2 HBB.out (HK2.out.more (by simp))
  clear hliv k2 HST1
  go_wp2_with fail
  go_at_call 6
  refine (hinto _).mono ?_
  rintro e wn ⟨rfl, hwn⟩
  subst wn
  obtain ⟨m, hm, hml⟩ : ∃ m : Nat, nn % 8201 = m ∧ m ≤ 8200 := by
    have h1 := Int.emod_nonneg nn (show (8201 : Int) ≠ 0 by decide)
    have h2 := Int.emod_lt_of_pos nn (show (0 : Int) < 8201 by decide)
    exact ⟨(nn % 8201).toNat, by omega, by omega⟩
  rw [hm]
  obtain ⟨K0, hK0⟩ : ∃ K0, K0 = idKey (digL [1, 0, 0, sd % 256, sd / 256 % 256]) := ⟨_, rfl⟩
  have HK0d : Hid (K0 = idKey (digL [1, 0, 0, sd % 256, sd / 256 % 256])) := hK0
  clear hinto hm c0 c1 hK0
  go_wp2
  go_loopw [5] (fun s5 wr => ∃ k : Nat, k ≤ m ∧ s5 = .int .i64 k ∧ Hid (∃ D n, St wr s b n D ∧ n ≤ k ∧ (0 < k → Maps.has D K0 = true) ∧ Maps.size D ≤ 8192 ∧ Kept [b] w2 wr)) (fun s5 _ => m - (intOf s5).toNat)
  case atStart => exact ⟨0, Nat.zero_le _, rfl, ⟨_, 0, HST2.out, Nat.le_refl _, fun h => absurd h (by decide), by decide, Kept.refl _ _⟩⟩
  case round =>
    obtain ⟨k, hk, rfl, HR⟩ := hrel
    obtain ⟨D, n, hst, hnk, hfirst, hsz8, hkr⟩ := HR.out
    have HKr : Hid (Kept [b] W0 wr) := (HK2.out.more (by simp)).then'' hkr
    obtain ⟨c0, c1⟩ := HC.out b wr HBB.out HKr.out
    by_cases hlt : k < m
    · have t1 : decide ((k : Int) < (m : Int)) = true := decide_eq_true (by omega)
      obtain ⟨xs, hxs⟩ : ∃ xs : List Int, xs = [1, (k : Int) % 256, (k : Int) / 256, sd % 256, sd / 256 % 256] := ⟨_, rfl⟩
      have hxl : xs.length = 5 := by rw [hxs]; rfl
      have hox : Octs xs := by
        rw [hxs]
        intro u hu
        simp only [List.mem_cons, List.not_mem_nil, or_false] at hu
        omega
      have hmap : (xs.map (Value.int .u8)).toArray = #[.int .u8 1, .int .u8 ((k : Int) % 256), .int .u8 ((k : Int) / 256), .int .u8 (sd % 256), .int .u8 (sd / 256 % 256)] := by rw [hxs]; rfl
      obtain ⟨w3, hw3⟩ : ∃ w3, w3 = wr.alloc (.cells #[.int .u8 1, .int .u8 ((k : Int) % 256), .int .u8 ((k : Int) / 256), .int .u8 (sd % 256), .int .u8 (sd / 256 % 256)] 5) := ⟨_, rfl⟩
      have HW3 : Hid (w3 = wr.alloc (.cells #[.int .u8 1, .int .u8 ((k : Int) % 256), .int .u8 ((k : Int) / 256), .int .u8 (sd % 256), .int .u8 (sd / 256 % 256)] 5)) := hw3
      have k3 : Kept [] wr w3 := by rw [hw3]; exact (Kept.refl _ _).alloc _
      have hb3 : BytesAt w3 (.slice (some ⟨wr.heap.size, 0, none⟩) 5 5) xs := by
        have h := row_bytes' (w := w3) (q := wr.heap.size) (ys := xs) (by rw [hmap, hw3]; exact heap_alloc_new wr _)
        rwa [hxl] at h
      have hbl := hst.lt.2
      have hvb : wr.heap.size ≠ b := by omega
      have HB3 : Hid (∀ W, Kept [] w3 W → BytesAt W (.slice (some ⟨wr.heap.size, 0, none⟩) 5 5) xs) := fun W k => hb3.kept' k (fun _ _ _ => by simp)
      have HK3 : Hid (Kept [b] W0 w3) := HKr.out.then' k3
      have hid := Id_any (.slice (some ⟨wr.heap.size, 0, none⟩) 5 5) xs w3 (HV.out b w3 HBB.out HK3.out) hb3 hox (by omega)
      have HGD : Hid (GoodID (digL xs)) := ⟨digL_len xs, digL_octs xs⟩
      have HX1 : Hid (∃ ys, xs = 1 :: ys) := ⟨_, hxs⟩
      have HS3 : Hid (∀ W, Kept [] w3 W → St W s b n D) := fun W k => hst.on (k3.then k)
      have HFK : Hid (k = 0 → K0 = idKey (digL xs)) := fun e => by
        rw [HK0d.out, hxs]
        subst e
        rfl
      have HF : Hid (0 < k → Maps.has D K0 = true) := hfirst
      have HT : Hid (Maps.Tidy D ∧ Maps.IsMap D) := ⟨hst.own.tidy Tryd.keyId, hst.own.isMap⟩
      have HSN : Hid (Maps.size D ≤ n) := hst.size
      have HKw : Hid (Kept [b] w2 w3) := hkr.then' k3
      have HOX : Hid (Octs xs) := hox
      clear HR hst hfirst hkr hw3 k3 hb3 hmap hxs hox
      go_wp2_with fail
      rw [← HW3.out]
      go_at_call 8
      refine hid.mono ?_
      rintro e w4 ⟨rfl, k4⟩
      have HK34 : Hid (Kept [] w3 w4) := k4
      have hhas := Has_st (HS3.out w4 k4) HGD.out
      clear hid k4 c0 c1
      go_wp2_with fail
      go_at_call 7
      refine hhas.mono ?_
      rintro e w5 ⟨rfl, k5⟩
      have HK35 : Hid (Kept [] w3 w5) := HK34.out.then k5
      have hlen := Len_st (HS3.out w5 HK35.out)
      clear hhas k5
      obtain ⟨hs, hhs⟩ : ∃ r, r = Maps.has D (idKey (digL xs)) := ⟨_, rfl⟩
      rw [← hhs]
      have HHS : Hid (hs = Maps.has D (idKey (digL xs))) := hhs
      clear hhs
      go_wp2_with fail
      go_at_call 9
      refine hlen.mono ?_
      rintro e wn ⟨rfl, hwn⟩
      subst wn
      have hput : Calls Tryd.prog 10 #[.pointer (some ⟨s, 0, none⟩), .slice (some ⟨wr.heap.size, 0, none⟩) 5 5] w5 (PutA w5 s b n D xs) := by
        obtain ⟨ys, hys⟩ := HX1.out
        have h := Put_st (HS3.out w5 HK35.out) (by omega) wr.heap.size 0 5 xs ys hys (by rw [hxl]; exact HB3.out w5 HK35.out) hvb HOX.out (by omega) (HV.out b w5 HBB.out (HK3.out.then' HK35.out))
        rwa [hxl] at h
      clear hlen
      go_wp2_with fail
      go_at_call 10
      refine hput.mono ?_
      rintro e w6 hpa
      have HPA : Hid (PutA w5 s b n D xs e w6) := hpa
      have key : ∃ z nw er D' n', e = .returned (.tuple #[.agg (idC z), .bool nw, .int .i64 er]) ∧ z.length = 32 ∧ St w6 s b n' D' ∧ n' ≤ k + 1 ∧ Maps.has D' K0 = true ∧ Maps.size D' ≤ 8192 ∧ Kept [b] w5 w6 ∧ (hs = true → nw = false ∧ (er = 0 ∨ er = 45)) ∧ (hs = false → Maps.size D = 8192 → nw = false ∧ er = 44 ∧ Maps.size D' = 8192) ∧ (hs = false → Maps.size D ≠ 8192 → nw = true ∧ er = 0) := by
        have hs1 := HHS.out
        have hf0 : 0 < k → Maps.has D K0 = true := HF.out
        by_cases hh : Maps.has D (idKey (digL xs)) = true
        · obtain ⟨z, er, h1, h2, h3, h4, h5⟩ := hpa.there hh
          refine ⟨z, false, er, D, n, h1, h2, h4, by omega, ?_, hsz8, h5.more (by simp), fun _ => ⟨rfl, h3⟩, fun h => ?_, fun h => ?_⟩
          · rcases Nat.eq_zero_or_pos k with e0 | e0
            · rw [HFK.out e0]; exact hh
            · exact hf0 e0
          · rw [hs1, hh] at h; cases h
          · rw [hs1, hh] at h; cases h
        · have hh2 : Maps.has D (idKey (digL xs)) = false := by simpa using hh
          by_cases hfu : Maps.size D = 8192
          · obtain ⟨z, h1, h2, h4, h5⟩ := hpa.full hh2 (by omega)
            refine ⟨z, false, 44, D, n, h1, h2, h4, by omega, ?_, hsz8, h5.more (by simp), fun h => ?_, fun _ _ => ⟨rfl, rfl, hfu⟩, fun _ h => absurd hfu h⟩
            · have := HSN.out
              exact hf0 (by omega)
            · rw [hs1, hh2] at h; cases h
          · obtain ⟨g, c, h1, h2, _, h4⟩ := hpa.new hh2 (by omega)
            refine ⟨digL xs, true, 0, _, n + 1, h1, digL_len xs, h2, by omega, ?_, ?_, h4, fun h => ?_, fun _ h => absurd h hfu, fun _ _ => ⟨rfl, rfl⟩⟩
            · by_cases ek : K0 = idKey (digL xs)
              · rw [ek]
                exact Maps.has_put_same HT.out.2 (idKey_lit _) _
              · rw [Maps.has_put_other ek]
                rcases Nat.eq_zero_or_pos k with e0 | e0
                · exact absurd (HFK.out e0) ek
                · exact hf0 e0
            · rw [Maps.size_put HT.out.1]
              split <;> omega
            · rw [hs1, hh2] at h; cases h
      obtain ⟨z, nw, er, D', n', rfl, hz, hst6, hn6, hf6, hs6, k6, r1, r2, r3⟩ := key
      have hsz : (Tryd.prog.info? 33).map (·.size) = some (idC z).size := by rw [idC_size hz]; exact Tryd.infoID
      have hzz : (idC zid).size = (idC z).size := by rw [idC_size hz]; rfl
      have hone : (idC z).all (·.oneCell') = true := all_oneCell_toArray (map_oneCell _)
      obtain ⟨w7, hw7⟩ : ∃ w7, w7 = w6.alloc (.cells (idC z) 33) := ⟨_, rfl⟩
      have HW7 : Hid (w7 = w6.alloc (.cells (idC z) 33)) := hw7
      have k67 : Kept [] w6 w7 := by rw [hw7]; exact (Kept.refl _ _).alloc _
      have HEND : Hid (∃ D n, St w7 s b n D ∧ n ≤ k + 1 ∧ (0 < k + 1 → Maps.has D K0 = true) ∧ Maps.size D ≤ 8192 ∧ Kept [b] w2 w7) := ⟨D', n', hst6.on k67, hn6, fun _ => hf6, hs6, ((HKw.out.then' HK35.out).then'' k6).then' k67⟩
      have HL7 : Hid (Calls Tryd.prog 9 #[.pointer (some ⟨s, 0, none⟩)] w7 fun e w' => e = .returned (.int .i64 (Maps.size D')) ∧ w' = w7) := Len_st (hst6.on k67)
      have HR1 : Hid (hs = true → nw = false ∧ (er = 0 ∨ er = 45)) := r1
      have HR2 : Hid (hs = false → Maps.size D = 8192 → nw = false ∧ er = 44 ∧ Maps.size D' = 8192) := r2
      have HR3 : Hid (hs = false → Maps.size D ≠ 8192 → nw = true ∧ er = 0) := r3
      clear hput hpa HPA hst6 hn6 hf6 hs6 k6 k67 hw7 hz r1 r2 r3 HF HFK HT HHS hsz8
      generalize idC z = ic at *
      cases hs
      case true =>
        obtain ⟨rfl, he⟩ := HR1.out (by trivial)
        rcases he with rfl | rfl
        · clear HR1 HR2 HR3
          go_wp2_with (first
            | (refine wpList_store_newS (by rfl) 33 (.tmp 9) (.tmp 58) (by rfl) w6 _ ic (by rfl) (by rfl) hsz hzz hone ?_; rw [← HW7.out])
            | (go_at_call 11; refine (num4_any _ _).mono ?_; rintro e wn ⟨rfl, hwn⟩; subst wn))
          go_roundw
          case rel => exact ⟨k + 1, by omega, by go_num, HEND⟩
          case measure => simp [intOf]; omega
        · clear HR1 HR2 HR3
          go_wp2_with (first
            | (refine wpList_store_newS (by rfl) 33 (.tmp 9) (.tmp 58) (by rfl) w6 _ ic (by rfl) (by rfl) hsz hzz hone ?_; rw [← HW7.out])
            | (go_at_call 11; refine (num4_any _ _).mono ?_; rintro e wn ⟨rfl, hwn⟩; subst wn))
          go_roundw
          case rel => exact ⟨k + 1, by omega, by go_num, HEND⟩
          case measure => simp [intOf]; omega
      case false =>
        by_cases hfu : Maps.size D = 8192
        · obtain ⟨rfl, rfl, hD'⟩ := HR2.out (by trivial) hfu
          have hl7 := HL7.out
          rw [hD'] at hl7
          have tf : (((Maps.size D : Nat) : Int) == 8192) = true := by simp; omega
          clear HR1 HR2 HR3 hfu
          go_wp2_with (first
            | (refine wpList_store_newS (by rfl) 33 (.tmp 9) (.tmp 58) (by rfl) w6 _ ic (by rfl) (by rfl) hsz hzz hone ?_; rw [← HW7.out])
            | (go_at_call 11; refine (num4_any _ _).mono ?_; rintro e wn ⟨rfl, hwn⟩; subst wn)
            | (go_at_call 9; refine hl7.mono ?_; rintro e w8 ⟨rfl, hw8⟩; subst w8))
          go_roundw
          case rel => exact ⟨k + 1, by omega, by go_num, HEND⟩
          case measure => simp [intOf]; omega
        · obtain ⟨rfl, rfl⟩ := HR3.out (by trivial) hfu
          have tf : (((Maps.size D : Nat) : Int) == 8192) = false := by simp; omega
          clear HR1 HR2 HR3 hfu
          go_wp2_with (first
            | (refine wpList_store_newS (by rfl) 33 (.tmp 9) (.tmp 58) (by rfl) w6 _ ic (by rfl) (by rfl) hsz hzz hone ?_; rw [← HW7.out])
            | (go_at_call 11; refine (num4_any _ _).mono ?_; rintro e wn ⟨rfl, hwn⟩; subst wn))
          go_roundw
          case rel => exact ⟨k + 1, by omega, by go_num, HEND⟩
          case measure => simp [intOf]; omega
    · have t1 : decide ((k : Int) < (m : Int)) = false := decide_eq_false (by omega)
      have hlen := Len_st hst
      go_wp2_with fail
      go_at_call 9
      refine hlen.mono ?_
      rintro e wn ⟨rfl, hwn⟩
      subst wn
      clear hlen
      by_cases hfu : Maps.size D < 8192
      · have tf : decide (((Maps.size D : Nat) : Int) < 8192) = true := decide_eq_true (by omega)
        have HFK : Hid (Kept [] w wr) := kept_newP HK0.out HKr.out (by have := HBB.out; have := HS0.out; omega)
        clear HR hst hfirst hkr hfu
        go_wp2
        go_ret
        exact ⟨rfl, HFK.out⟩
      · have tf : decide (((Maps.size D : Nat) : Int) < 8192) = false := decide_eq_false (by omega)
        have h8192 : Maps.size D = 8192 := by omega
        have hHas : Maps.has D K0 = true := hfirst (by have := hst.size; omega)
        obtain ⟨xs, hxs⟩ : ∃ xs : List Int, xs = [1, 0, 0, sd % 256, sd / 256 % 256] := ⟨_, rfl⟩
        have hxl : xs.length = 5 := by rw [hxs]; rfl
        have hox : Octs xs := by
          rw [hxs]
          intro u hu
          simp only [List.mem_cons, List.not_mem_nil, or_false] at hu
          omega
        have hmap : (xs.map (Value.int .u8)).toArray = #[.int .u8 1, .int .u8 0, .int .u8 0, .int .u8 (sd % 256), .int .u8 (sd / 256 % 256)] := by rw [hxs]; rfl
        have hkey : K0 = idKey (digL xs) := by rw [HK0d.out, hxs]
        rw [hkey] at hHas
        obtain ⟨w3, hw3⟩ : ∃ w3, w3 = wr.alloc (.cells #[.int .u8 1, .int .u8 0, .int .u8 0, .int .u8 (sd % 256), .int .u8 (sd / 256 % 256)] 5) := ⟨_, rfl⟩
        have HW3 : Hid (w3 = wr.alloc (.cells #[.int .u8 1, .int .u8 0, .int .u8 0, .int .u8 (sd % 256), .int .u8 (sd / 256 % 256)] 5)) := hw3
        have k3 : Kept [] wr w3 := by rw [hw3]; exact (Kept.refl _ _).alloc _
        have hb3 : BytesAt w3 (.slice (some ⟨wr.heap.size, 0, none⟩) 5 5) xs := by
          have h := row_bytes' (w := w3) (q := wr.heap.size) (ys := xs) (by rw [hmap, hw3]; exact heap_alloc_new wr _)
          rwa [hxl] at h
        have hbl := hst.lt.2
        have hvb : wr.heap.size ≠ b := by omega
        have HB3 : Hid (∀ W, Kept [b] w3 W → BytesAt W (.slice (some ⟨wr.heap.size, 0, none⟩) 5 5) xs) := fun W k => hb3.kept' k (fun _ x hx hm => by
          obtain rfl : wr.heap.size = x := by simpa [blkOf] using hx
          exact hvb (by simpa using hm))
        have HK3 : Hid (Kept [b] W0 w3) := HKr.out.then' k3
        have HX1 : Hid (∃ ys, xs = 1 :: ys) := ⟨_, hxs⟩
        have HPT : Hid (∀ W D n, Kept [b] w3 W → n ≤ 100000 → St W s b n D → Calls Tryd.prog 10 #[.pointer (some ⟨s, 0, none⟩), .slice (some ⟨wr.heap.size, 0, none⟩) 5 5] W (PutA W s b n D xs)) := fun W D n k hn hstW => by
          obtain ⟨ys, hys⟩ := HX1.out
          have h := Put_st hstW (by omega) wr.heap.size 0 5 xs ys hys (by rw [hxl]; exact HB3.out W k) hvb hox (by omega) (HV.out b W HBB.out (HK3.out.then'' k))
          rwa [hxl] at h
        have HGD : Hid (GoodID (digL xs)) := ⟨digL_len xs, digL_octs xs⟩
        have HIDX : Hid (∀ W, Kept [b] w3 W → Calls Tryd.prog 8 #[.slice (some ⟨wr.heap.size, 0, none⟩) 5 5] W fun e w' => e = .returned (.agg (idC (digL xs))) ∧ Kept [] W w') := fun W k => Id_any _ xs W (HV.out b W HBB.out (HK3.out.then'' k)) (HB3.out W k) hox (by omega)
        have hput := HPT.out w3 D n (Kept.refl _ _) (by omega) (hst.on k3)
        have HTD : Hid (Maps.Tidy D) := hst.own.tidy Tryd.keyId
        have HDEL : Hid (Maps.size (D.del (idKey (digL xs))) = 8191) := by
          have h := Maps.size_del (k := idKey (digL xs)) (hst.own.tidy Tryd.keyId)
          rw [hHas, h8192] at h
          show Maps.size (D.del (idKey (digL xs))) = 8191
          simp only [if_true] at h
          omega
        have HHas : Hid (Maps.has D (idKey (digL xs)) = true) := hHas
        have hnn : n ≤ 9000 := by omega
        clear HR hst hfirst hkr hfu hb3 hmap hxs hox hw3 k3 hkey hHas h8192 hsz8 hnk
        go_wp2_with fail
        rw [← HW3.out]
        go_at_call 10
        refine hput.mono ?_
        rintro e w4 hpa
        obtain ⟨z, er, rfl, hz, her, hst4, k4⟩ := hpa.there HHas.out
        have hsz : (Tryd.prog.info? 33).map (·.size) = some (idC z).size := by rw [idC_size hz]; exact Tryd.infoID
        have hzz : (idC zid).size = (idC z).size := by rw [idC_size hz]; rfl
        have hone : (idC z).all (·.oneCell') = true := all_oneCell_toArray (map_oneCell _)
        obtain ⟨w5, hw5⟩ : ∃ w5, w5 = w4.alloc (.cells (idC z) 33) := ⟨_, rfl⟩
        have HW5 : Hid (w5 = w4.alloc (.cells (idC z) 33)) := hw5
        have k45 : Kept [] w4 w5 := by rw [hw5]; exact (Kept.refl _ _).alloc _
        have HK5 : Hid (Kept [b] w3 w5) := (k4.then k45).more (by simp)
        have hidx := HIDX.out w5 HK5.out
        have HRM : Hid (∀ W, Kept [] w5 W → Calls Tryd.prog 12 #[.pointer (some ⟨s, 0, none⟩), .agg (idC (digL xs))] W fun e w' => e = .returned (.bool true) ∧ St w' s b n (D.del (idKey (digL xs))) ∧ Kept [b] W w') := fun W k => by
          have h := Remove_st ((hst4.on k45).on k) HGD.out
          rw [HHas.out] at h
          exact h
        clear hput hpa hst4 k4 k45 hw5 hz
        generalize idC z = ic at *
        have hid32 : (idC (digL xs)).size = 32 := idC_size (digL_len xs)
        rcases her with rfl | rfl
        · go_wp2_with (first
            | (refine wpList_store_newS (by rfl) 33 (.tmp 13) (.tmp 110) (by rfl) w4 _ ic (by rfl) (by rfl) hsz hzz hone ?_; rw [← HW5.out])
            | (go_at_call 11; refine (num4_any _ _).mono ?_; rintro e wn ⟨rfl, hwn⟩; subst wn)
            | (go_at_call 8; refine hidx.mono ?_; rintro e w6 ⟨rfl, k6⟩
               have hrm := HRM.out w6 k6
               have HK6 : Hid (Kept [b] w3 w6) := HK5.out.then' k6
               clear k6)
            | (go_at_call 12; refine hrm.mono ?_; rintro e w7 ⟨rfl, hst7, k7⟩
               have HK7 : Hid (Kept [b] w3 w7) := HK6.out.then'' k7
               have hput2 := HPT.out w7 _ n HK7.out (by omega) hst7
               have HM7 : Hid (Maps.Tidy (D.del (idKey (digL xs)))) := hst7.own.tidy Tryd.keyId
               clear k7 hrm hst7))
          go_at_call 10
          refine hput2.mono ?_
          rintro e w8 hpa
          obtain ⟨g, c, rfl, hst8, _, k8⟩ := hpa.new Maps.has_del_same (by have := HDEL.out; omega)
          have hs8 : Maps.size ((D.del (idKey (digL xs))).put (idKey (digL xs)) (slD g xs.length c)) = 8192 := by
            rw [Maps.size_put HM7.out, Maps.has_del_same, HDEL.out]
            rfl
          obtain ⟨w9, hw9⟩ : ∃ w9, w9 = w8.alloc (.cells (idC (digL xs)) 33) := ⟨_, rfl⟩
          have HW9 : Hid (w9 = w8.alloc (.cells (idC (digL xs)) 33)) := hw9
          have k89 : Kept [] w8 w9 := by rw [hw9]; exact (Kept.refl _ _).alloc _
          have hlen9 := Len_st (hst8.on k89)
          rw [hs8] at hlen9
          have HKE : Hid (Kept [] w w9) := (kept_newP HK0.out (((HK3.out.then'' HK7.out).then'' k8).then' k89) (by have := HBB.out; have := HS0.out; omega))
          have hsz9 : (Tryd.prog.info? 33).map (·.size) = some (idC (digL xs)).size := by rw [hid32]; exact Tryd.infoID
          have hzz9 : (idC zid).size = (idC (digL xs)).size := by rw [hid32]; rfl
          have hone9 : (idC (digL xs)).all (·.oneCell') = true := all_oneCell_toArray (map_oneCell _)
          clear hput2 hpa hst8 k8 k89 hw9 hs8
          generalize idC (digL xs) = ic9 at *
          go_wp2_with (first
            | (refine wpList_store_newS (by rfl) 33 (.tmp 16) (.tmp 135) (by rfl) w8 _ ic9 (by rfl) (by rfl) hsz9 hzz9 hone9 ?_; rw [← HW9.out])
            | (go_at_call 11; refine (num4_any _ _).mono ?_; rintro e wn ⟨rfl, hwn⟩; subst wn)
            | (go_at_call 9; refine hlen9.mono ?_; rintro e wq ⟨rfl, hwq⟩; subst wq))
          go_ret
          exact ⟨rfl, HKE.out⟩
        · go_wp2_with (first
            | (refine wpList_store_newS (by rfl) 33 (.tmp 13) (.tmp 110) (by rfl) w4 _ ic (by rfl) (by rfl) hsz hzz hone ?_; rw [← HW5.out])
            | (go_at_call 11; refine (num4_any _ _).mono ?_; rintro e wn ⟨rfl, hwn⟩; subst wn)
            | (go_at_call 8; refine hidx.mono ?_; rintro e w6 ⟨rfl, k6⟩
               have hrm := HRM.out w6 k6
               have HK6 : Hid (Kept [b] w3 w6) := HK5.out.then' k6
               clear k6)
            | (go_at_call 12; refine hrm.mono ?_; rintro e w7 ⟨rfl, hst7, k7⟩
               have HK7 : Hid (Kept [b] w3 w7) := HK6.out.then'' k7
               have hput2 := HPT.out w7 _ n HK7.out (by omega) hst7
               have HM7 : Hid (Maps.Tidy (D.del (idKey (digL xs)))) := hst7.own.tidy Tryd.keyId
               clear k7 hrm hst7))
          go_at_call 10
          refine hput2.mono ?_
          rintro e w8 hpa
          obtain ⟨g, c, rfl, hst8, _, k8⟩ := hpa.new Maps.has_del_same (by have := HDEL.out; omega)
          have hs8 : Maps.size ((D.del (idKey (digL xs))).put (idKey (digL xs)) (slD g xs.length c)) = 8192 := by
            rw [Maps.size_put HM7.out, Maps.has_del_same, HDEL.out]
            rfl
          obtain ⟨w9, hw9⟩ : ∃ w9, w9 = w8.alloc (.cells (idC (digL xs)) 33) := ⟨_, rfl⟩
          have HW9 : Hid (w9 = w8.alloc (.cells (idC (digL xs)) 33)) := hw9
          have k89 : Kept [] w8 w9 := by rw [hw9]; exact (Kept.refl _ _).alloc _
          have hlen9 := Len_st (hst8.on k89)
          rw [hs8] at hlen9
          have HKE : Hid (Kept [] w w9) := (kept_newP HK0.out (((HK3.out.then'' HK7.out).then'' k8).then' k89) (by have := HBB.out; have := HS0.out; omega))
          have hsz9 : (Tryd.prog.info? 33).map (·.size) = some (idC (digL xs)).size := by rw [hid32]; exact Tryd.infoID
          have hzz9 : (idC zid).size = (idC (digL xs)).size := by rw [hid32]; rfl
          have hone9 : (idC (digL xs)).all (·.oneCell') = true := all_oneCell_toArray (map_oneCell _)
          clear hput2 hpa hst8 k8 k89 hw9 hs8
          generalize idC (digL xs) = ic9 at *
          go_wp2_with (first
            | (refine wpList_store_newS (by rfl) 33 (.tmp 16) (.tmp 135) (by rfl) w8 _ ic9 (by rfl) (by rfl) hsz9 hzz9 hone9 ?_; rw [← HW9.out])
            | (go_at_call 11; refine (num4_any _ _).mono ?_; rintro e wn ⟨rfl, hwn⟩; subst wn)
            | (go_at_call 9; refine hlen9.mono ?_; rintro e wq ⟨rfl, hwq⟩; subst wq))
          go_ret
          exact ⟨rfl, HKE.out⟩
end Go.Proofs.YtpdlnmjnpodicaaDoor
