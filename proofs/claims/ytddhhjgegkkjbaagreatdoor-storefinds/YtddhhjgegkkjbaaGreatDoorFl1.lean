/-
  WALK: satchellaw4.filled.
-/
import Derived.Test.YtddhhjgegkkjbaaGreatDoorFl0
import Derived.Test.YtddhhjgegkkjbaaGreatDoorSk6
import Derived.Test.YtddhhjgegkkjbaaGreatDoorHdS
namespace Go.Proofs.YtddhhjgegkkjbaaGreatDoor
open Go.RowKit Go.WideMaps

/-- A list of lists of bytes. -/
def LsAt (w : World) (v : Value) (L : List (List Int)) : Prop :=
  ∃ ao cap, v = .slice ao L.length cap ∧ L.length ≤ 140737488351232 ∧ (∀ xs, xs ∈ L → Octs xs ∧ xs.length ≤ 140737488351232) ∧ (L ≠ [] → ∃ b off, ao = some ⟨b, off, none⟩ ∧ ∀ (i : Nat) xs, L[i]? = some xs → ∃ u, w.cell? ⟨b, off + i, none⟩ = some u ∧ BytesAt w u xs)
/-- A list of numbers. -/
def NsAt (w : World) (v : Value) (G : List Int) : Prop :=
  ∃ ao cap, v = .slice ao G.length cap ∧ G.length ≤ 140737488351232 ∧ (∀ z, z ∈ G → -9223372036854775808 ≤ z ∧ z ≤ 9223372036854775807) ∧ (G ≠ [] → ∃ b off, ao = some ⟨b, off, none⟩ ∧ ∀ (i : Nat) z, G[i]? = some z → w.cell? ⟨b, off + i, none⟩ = some (.int .i64 z))
theorem LsAt.kept {w w' : World} {v : Value} {L : List (List Int)} (h : LsAt w v L) (k : Kept [] w w') : LsAt w' v L := by
  obtain ⟨ao, cap, h1, h2, h3, h4⟩ := h
  refine ⟨ao, cap, h1, h2, h3, fun hne => ?_⟩
  obtain ⟨b, off, h5, h6⟩ := h4 hne
  refine ⟨b, off, h5, fun i xs hi => ?_⟩
  obtain ⟨u, h7, h8⟩ := h6 i xs hi
  exact ⟨u, k.cell h7 (by simp), h8.kept' k (fun _ _ _ => by simp)⟩
theorem NsAt.kept {w w' : World} {v : Value} {G : List Int} (h : NsAt w v G) (k : Kept [] w w') : NsAt w' v G := by
  obtain ⟨ao, cap, h1, h2, h3, h4⟩ := h
  refine ⟨ao, cap, h1, h2, h3, fun hne => ?_⟩
  obtain ⟨b, off, h5, h6⟩ := h4 hne
  exact ⟨b, off, h5, fun i z hi => k.cell (h6 i z hi) (by simp)⟩
theorem put_cases [TabC] {w w' : World} {s b n : Nat} {D : DataW Unit} {xs : List Int} {e : Ending} (hf : FlT w s b n D) (hn : n ≤ 1000) (hp : parErr xs = 0) (ho : Octs xs) (h : PutB w s b n D xs e w') :
    ∃ z nw er D2 n2, e = .returned (.tuple #[.agg (idC z), .bool nw, .int .i64 er]) ∧ z.length = 32 ∧ FlT w' s b n2 D2 ∧ n2 ≤ n + 1 ∧ Kept [b] w w' ∧ ((Maps.has D (idKey (digL xs)) = true ∧ nw = false ∧ er = 45) ∨ (Maps.has D (idKey (digL xs)) = true ∧ nw = false ∧ er = 0 ∧ z = digL xs ∧ Maps.size D2 = Maps.size D ∧ Maps.has D2 (idKey (digL xs)) = true) ∨ (Maps.has D (idKey (digL xs)) = false ∧ nw = true ∧ er = 0 ∧ z = digL xs ∧ Maps.size D2 = Maps.size D + 1 ∧ Maps.has D2 (idKey (digL xs)) = true)) := by
  by_cases hh : Maps.has D (idKey (digL xs)) = true
  · obtain ⟨z, er, h1, h2, h3, h4, h5⟩ := h.there hh
    rcases h3 with ⟨h6, h7⟩ | ⟨h6, _⟩
    · exact ⟨z, false, er, D, n, h1, h2, hf.on h5, by omega, h5.more (by simp), Or.inr (Or.inl ⟨hh, rfl, h6, h7, rfl, hh⟩)⟩
    · exact ⟨z, false, er, D, n, h1, h2, hf.on h5, by omega, h5.more (by simp), Or.inl ⟨hh, rfl, h6⟩⟩
  · have hh2 : Maps.has D (idKey (digL xs)) = false := by simpa using hh
    have hsz := hf.st.size
    obtain ⟨g, c, h1, h2, h3, h4, h5⟩ := h.newT hh2 (by omega)
    have hs2 : Maps.size (D.put (idKey (digL xs)) (slD g xs.length c)) = Maps.size D + 1 := by
      have q := Maps.size_put (k := idKey (digL xs)) (d := slD g xs.length c) (hf.st.own.tidy Tryz.keyId)
      rw [hh2] at q
      simpa using q
    have hh3 : Maps.has (D.put (idKey (digL xs)) (slD g xs.length c)) (idKey (digL xs)) = true := Maps.has_put_same hf.st.own.isMap (idKey_lit _) _
    have hf2 := hf.put h4 h2 hp ho h3 h5
    exact ⟨digL xs, true, 0, D.put (idKey (digL xs)) (slD g xs.length c), n + 1, h1, digL_len xs, hf2, Nat.le_refl _, h4, Or.inr (Or.inr ⟨hh2, rfl, rfl, rfl, hs2, hh3⟩)⟩
/-- What filled leaves. -/
def FilA [TabC] (w : World) (e : Ending) (w' : World) : Prop := ∃ s b n D, e = .returned (.tuple #[.pointer (some ⟨s, 0, none⟩), .bool true]) ∧ Fl w' s b n D ∧ n ≤ 80 ∧ w.heap.size ≤ s ∧ w.heap.size ≤ b ∧ Kept [] w w'
def FilT [TabC] (w : World) (e : Ending) (w' : World) : Prop := ∃ s b n D, e = .returned (.tuple #[.pointer (some ⟨s, 0, none⟩), .bool true]) ∧ FlT w' s b n D ∧ n ≤ 80 ∧ w.heap.size ≤ s ∧ w.heap.size ≤ b ∧ Kept [] w w'
set_option maxRecDepth 100000 in
set_option maxHeartbeats 8000000 in
theorem filled_typed [TabC] (ev gv : Value) (nn : Int) (L : List (List Int)) (G : List Int) (w : World) (hV : Vars w) (hT : Tabs w) (hL : LsAt w ev L) (hG : NsAt w gv G) :
    Calls Tryz.prog 5 #[.agg #[ev, gv, .int .i64 nn]] w (FilT w) := by
  obtain ⟨W0, hW0⟩ : ∃ W0, W0 = w.alloc (.cells #[ev, gv, .int .i64 nn] 25) := ⟨_, rfl⟩
  have HW0 : Hid (W0 = w.alloc (.cells #[ev, gv, .int .i64 nn] 25)) := hW0
  have k0 : Kept [] w W0 := by rw [hW0]; exact (Kept.refl _ _).alloc _
  have HK0 : Hid (Kept [] w W0) := k0
  have HC : Hid (∀ W, Kept [] W0 W → W.cell? ⟨w.heap.size, 0, none⟩ = some ev ∧ W.cell? ⟨w.heap.size, 1, none⟩ = some gv) := fun W k => by
    have h := k.heap (show W0.heap[w.heap.size]? = _ by rw [hW0]; exact heap_alloc_new w _) (by simp)
    exact ⟨by rw [cell_of_row _ _ _ _ _ _ h]; rfl, by rw [cell_of_row _ _ _ _ _ _ h]; rfl⟩
  have hV0 := hV.kept k0 (by simp) (by simp)
  have HV : Hid (∀ W, Kept [] W0 W → Vars W ∧ Tabs W) := fun W k => ⟨hV0.kept k (by simp) (by simp), hT.kept (k0.then k)⟩
  have HL : Hid (∀ W, Kept [] W0 W → LsAt W ev L ∧ NsAt W gv G) := fun W k => ⟨hL.kept (k0.then k), hG.kept (k0.then k)⟩
  have hnew := New_st W0
  rw [hW0] at hnew
  obtain ⟨eo, ec, rfl, hLl, hLo, _⟩ := hL
  obtain ⟨go, gc, rfl, hGl, hGb, _⟩ := hG
  clear hV k0 hV0 hT
  go_enter Tryz.func5, Tryz.ntmps5
  go_wp2_with fail
  go_at_call 18
  refine hnew.mono ?_
  rintro e w1 ⟨s, b, rfl, hst, hs, hb, k1⟩
  rw [← HW0.out] at hs hb k1
  have hliv := lives4_any w1 (HV.out w1 k1).1
  have HB : Hid (W0.heap.size ≤ s ∧ W0.heap.size ≤ b) := ⟨hs, hb⟩
  have HS1 : Hid (∀ W, Kept [] w1 W → St W s b 0 (.map [])) := fun W k => hst.on k
  have HK1 : Hid (Kept [] W0 w1) := k1
  clear hnew hst k1 hs hb
  go_wp2_with fail
  go_at_call 19
  refine hliv.mono ?_
  rintro e w2 ⟨rfl, k2⟩
  have HF2 : Hid (FlT w2 s b 0 (.map [])) := FlT.start (HS1.out w2 k2)
  have HK2 : Hid (Kept [] W0 w2) := HK1.out.then k2
  obtain ⟨c0, c1⟩ := HC.out w2 HK2.out
  clear hliv k2 HS1 HK1
  go_wp2
  go_loopw [5, 6, 7, 8, 9, 10, 11, 12, 13] (fun s5 _ _ _ _ _ _ _ _ wr => ∃ k : Nat, k ≤ L.length ∧ k ≤ 80 ∧ s5 = .int .i64 k ∧ Hid (∃ D n, FlT wr s b n D ∧ n ≤ k ∧ Kept [] W0 wr)) (fun s5 _ _ _ _ _ _ _ _ _ => L.length - (intOf s5).toNat)
  case atStart => exact ⟨0, Nat.zero_le _, Nat.zero_le _, rfl, _, 0, HF2.out, Nat.le_refl _, HK2.out⟩
  case round =>
    obtain ⟨k, hk, hk80, rfl, HR⟩ := hrel
    obtain ⟨D, n, hfl, hnk, hkr⟩ := HR.out
    obtain ⟨c0, c1⟩ := HC.out wr hkr
    by_cases hlt : k < L.length ∧ k < 80
    · have t1 : decide ((k : Int) < (L.length : Int)) = true := decide_eq_true (by omega)
      have t2 : decide ((k : Int) < 80) = true := decide_eq_true (by omega)
      obtain ⟨xs, hxs⟩ : ∃ xs, L[k]? = some xs := ⟨_, List.getElem?_eq_getElem hlt.1⟩
      obtain ⟨ao', cap', he, _, hoc, hcl⟩ := (HL.out wr hkr).1
      obtain ⟨eb, ef, rfl, hcm⟩ := hcl (fun e => by rw [e] at hlt; simp at hlt)
      injection he with he1 _ he3
      subst he1 he3
      obtain ⟨u, hcu, hbu⟩ := hcm k xs hxs
      obtain ⟨ho, hxl⟩ := hoc xs (List.mem_of_getElem? hxs)
      have hcopy := Copy_any u xs wr hbu (by omega)
      obtain ⟨uo, uc, rfl, _⟩ := hbu
      have HFL : Hid (∀ W, Kept [] wr W → FlT W s b n D) := fun W q => hfl.on q
      have HKR : Hid (Kept [] W0 wr) := hkr
      clear HR hfl hkr hcl hcm hoc
      go_wp2_with fail
      go_at_call 20
      refine hcopy.mono ?_
      rintro e w3 ⟨rfl, hblk, k3⟩
      obtain ⟨V, hVV⟩ : ∃ V, V = Value.slice (some ⟨wr.heap.size, 0, none⟩) xs.length xs.length := ⟨_, rfl⟩
      have hbl := (HFL.out wr (Kept.refl _ _)).st.lt.2
      have HB3 : Hid (∀ W, Kept [b] w3 W → BytesAt W (.slice (some ⟨wr.heap.size, 0, none⟩) xs.length xs.length) xs) := fun W q => row_bytes' (q.heap hblk (by simp; omega))
      have HK3 : Hid (Kept [] wr w3) := k3
      have HO : Hid (Octs xs) := ho
      have HGD : Hid (GoodID (digL xs)) := ⟨digL_len xs, digL_octs xs⟩
      have HID : Hid (∀ W, Kept [b] w3 W → Kept [] W0 W → Calls Tryz.prog 9 #[.slice (some ⟨wr.heap.size, 0, none⟩) xs.length xs.length] W fun e w' => e = .returned (.agg (idC (digL xs))) ∧ Kept [] W w') := fun W q q0 => Id_any _ xs W (HV.out W q0).1 (HB3.out W q) ho (by omega)
      have HPR : Hid (∀ W, Kept [b] w3 W → Kept [] W0 W → Calls Tryz.prog 23 #[.slice (some ⟨wr.heap.size, 0, none⟩) xs.length xs.length] W fun e w' => ∃ br : Array Value, e = .returned (.tuple #[.agg br, .int .i64 (parErr xs)]) ∧ br.size = 76 ∧ br.all (·.oneCell') = true ∧ Kept [] W w') := fun W q q0 => Parse_put _ xs W (HB3.out W q) ho (HV.out W q0).2
      have hid := HID.out w3 (Kept.refl _ _) (HKR.out.then k3)
      clear hcopy hblk k3 ho hVV V
      go_wp2_with fail
      go_at_call 9
      refine hid.mono ?_
      rintro e w4 ⟨rfl, k4⟩
      have HK4 : Hid (Kept [] w3 w4) := k4
      have hhas := Has_st (HFL.out w4 (HK3.out.then k4)).st HGD.out
      clear hid k4
      go_wp2_with fail
      go_at_call 21
      refine hhas.mono ?_
      rintro e w5 ⟨rfl, k5⟩
      have HK5 : Hid (Kept [] w3 w5) := HK4.out.then k5
      have hlen := Len_st (HFL.out w5 (HK3.out.then HK5.out)).st
      obtain ⟨was, hwas⟩ : ∃ r, r = Maps.has D (idKey (digL xs)) := ⟨_, rfl⟩
      rw [← hwas]
      have HWAS : Hid (was = Maps.has D (idKey (digL xs))) := hwas
      clear hhas k5 hwas HK4
      go_wp2_with fail
      go_at_call 22
      refine hlen.mono ?_
      rintro e wn ⟨rfl, hwn⟩
      subst wn
      clear hlen
      have HFL5 : Hid (FlT w5 s b n D) := HFL.out w5 (HK3.out.then HK5.out)
      have HK05 : Hid (Kept [] W0 w5) := (HKR.out.then HK3.out).then HK5.out
      obtain ⟨pe, hpe⟩ : ∃ pe, pe = parErr xs := ⟨_, rfl⟩
      rw [← hpe] at HPR
      have HPE : Hid (pe = parErr xs) := hpe
      have HSW : Hid (w.heap.size ≤ W0.heap.size) := HK0.out.size
      clear hpe HFL
      by_cases hp0 : pe = 0
      · subst hp0
        have hp : parErr xs = 0 := HPE.out.symm
        have HPN : Hid (xs ≠ [] ∧ xs.length ≤ 65536) := ⟨par_ne hp, (parErr_zero hp).1⟩
        have hput := Put_of HFL5.out.st (by omega) wr.heap.size 0 xs.length xs HPN.out.1 (fun W q => HPR.out W ((HK5.out.then q).more (by simp)) (HK05.out.then q)) (HB3.out w5 (HK5.out.more (by simp))) (by omega) HO.out HPN.out.2 (HV.out w5 HK05.out).1
        go_wp2_with fail
        go_at_call 11
        refine hput.mono ?_
        rintro e w6 hpa
        obtain ⟨z, nw, er, D2, n2, rfl, hz, hfl6, hn6, k6, hcase⟩ : ∃ z nw er D2 n2, e = .returned (.tuple #[.agg (idC z), .bool nw, .int .i64 er]) ∧ z.length = 32 ∧ FlT w6 s b n2 D2 ∧ n2 ≤ n + 1 ∧ Kept [b] w5 w6 ∧ ((was = true ∧ nw = false ∧ er = 45) ∨ (was = true ∧ nw = false ∧ er = 0 ∧ z = digL xs ∧ Maps.size D2 = Maps.size D ∧ Maps.has D2 (idKey (digL xs)) = true) ∨ (was = false ∧ nw = true ∧ er = 0 ∧ z = digL xs ∧ Maps.size D2 = Maps.size D + 1 ∧ Maps.has D2 (idKey (digL xs)) = true)) := by
          rw [HWAS.out]
          exact put_cases HFL5.out (by omega) hp HO.out hpa
        obtain ⟨w7, hw7⟩ : ∃ w7, w7 = w6.alloc (.cells (idC z) 36) := ⟨_, rfl⟩
        have HW7 : Hid (w7 = w6.alloc (.cells (idC z) 36)) := hw7
        have k67 : Kept [] w6 w7 := by rw [hw7]; exact (Kept.refl _ _).alloc _
        have HKb7 : Hid (Kept [b] w3 w7) := ((HK5.out.more (by simp)).then'' k6).then' k67
        have HK07 : Hid (Kept [] W0 w7) := (kept_newP HK05.out k6 HB.out.2).then k67
        have HI7 : Hid (w7.heap[w6.heap.size]? = some (.cells (idC z) 36 (0, 0))) := by rw [hw7]; exact heap_alloc_new w6 _
        have HF7 : Hid (FlT w7 s b n2 D2) := hfl6.on k67
        have hpar := HPR.out w7 HKb7.out HK07.out
        have hsz : (Tryz.prog.info? 36).map (·.size) = some (idC z).size := by rw [idC_size hz]; exact Tryz.infoID
        have hzz : (idC zid).size = (idC z).size := by rw [idC_size hz]; rfl
        have hone : (idC z).all (·.oneCell') = true := all_oneCell_toArray (map_oneCell _)
        have HCS : Hid ((was = true ∧ nw = false ∧ er = 45) ∨ (was = true ∧ nw = false ∧ er = 0 ∧ z = digL xs ∧ Maps.size D2 = Maps.size D ∧ Maps.has D2 (idKey (digL xs)) = true) ∨ (was = false ∧ nw = true ∧ er = 0 ∧ z = digL xs ∧ Maps.size D2 = Maps.size D + 1 ∧ Maps.has D2 (idKey (digL xs)) = true)) := hcase
        have HSD : Hid (Maps.size D ≤ 1000) := by
          have := HFL5.out.st.size
          show Maps.size D ≤ 1000
          omega
        clear hput hpa hfl6 k6 k67 hw7 hcase hp hz
        obtain ⟨ic, hic⟩ : ∃ ic, ic = idC z := ⟨_, rfl⟩
        have HIC : Hid (ic = idC z) := hic
        rw [← hic] at HW7 HI7 hsz hzz hone ⊢
        clear hic
        go_wp2_with (first
          | (refine wpList_store_newS (by rfl) 36 (.tmp 9) (.tmp 52) (by rfl) w6 _ ic (by rfl) (by rfl) hsz hzz hone ?_; rw [← HW7.out]))
        go_at_call 23
        refine hpar.mono ?_
        rintro e w8 ⟨br, rfl, hoz, hpo, k8⟩
        have hos : (Tryz.prog.info? 61).map (·.size) = some br.size := by rw [hoz]; kernel_rfl
        have hoz2 : Tryz.zeroCells61.size = br.size := by rw [hoz]; kernel_rfl
        obtain ⟨w9, hw9⟩ : ∃ w9, w9 = w8.alloc (.cells br 61) := ⟨_, rfl⟩
        have HW9 : Hid (w9 = w8.alloc (.cells br 61)) := hw9
        have k89 : Kept [] w8 w9 := by rw [hw9]; exact (Kept.refl _ _).alloc _
        have HK79 : Hid (Kept [] w7 w9) := k8.then k89
        have HEND : Hid (∀ W, Kept [] w9 W → ∃ D n, FlT W s b n D ∧ n ≤ k + 1 ∧ Kept [] W0 W) := fun W q => ⟨D2, n2, HF7.out.on (HK79.out.then q), by omega, HK07.out.then (HK79.out.then q)⟩
        clear hpar hoz k8 hw9 k89
        rcases HCS.out with ⟨q1, q2, q3⟩ | ⟨q1, q2, q3, q4, hsD, hhD⟩ | ⟨q1, q2, q3, q4, hsD, hhD⟩
        · subst q1 q2 q3
          have HE : Hid (∃ D n, FlT w9 s b n D ∧ n ≤ k + 1 ∧ Kept [] W0 w9) := HEND.out w9 (Kept.refl _ _)
          clear HCS
          go_wp2_with (first
            | (refine wpList_store_newS (by rfl) 61 (.tmp 12) (.tmp 58) (by rfl) w8 _ br (by rfl) (by rfl) hos hoz2 hpo ?_; rw [← HW9.out])
            | (go_at_call 17; refine (num4_any _ _).mono ?_; rintro e wn ⟨rfl, hwn⟩; subst wn))
          go_roundw
          case rel => exact ⟨k + 1, by omega, by omega, by go_num, HE⟩
          case measure => simp [intOf]; omega
        · subst q1 q2 q3
          have HZ : Hid (z = digL xs) := q4
          have HHD : Hid (Maps.has D2 (idKey (digL xs)) = true) := hhD
          clear q4
          have HNUM : Hid (∀ W, Kept [] w9 W → Calls Tryz.prog 17 #[.int .i64 0] W fun e w' => e = .returned (.int .i64 0) ∧ Kept [] w9 w') := fun W q => (num4_any 0 W).mono fun _ _ ⟨h1, h2⟩ => ⟨h1, by rw [h2]; exact q⟩
          have hui := Tryz.underlying36
          obtain ⟨us, hus⟩ : ∃ us, us = (digL xs).map (Value.int .u8) := ⟨_, rfl⟩
          have HUS : Hid (idC (digL xs) = us.toArray) := by rw [hus]; rfl
          have hsi : (Tryz.prog.info? 36).map (·.size) = some us.length := by rw [hus, List.length_map, digL_len]; exact Tryz.infoID
          have HRG : Hid (∀ W, Kept [] w9 W → W.rangeAt w6.heap.size 0 us) := fun W q => row_range ((HK79.out.then q).heap (show w7.heap[w6.heap.size]? = some (.cells us.toArray 36 (0, 0)) by rw [← HUS.out, ← HZ.out, ← HIC.out]; exact HI7.out) (by simp))
          have HIDC : Hid (∀ W, Kept [] w9 W → Calls Tryz.prog 9 #[.slice (some ⟨wr.heap.size, 0, none⟩) xs.length xs.length] W fun e w' => e = .returned (.agg us.toArray) ∧ Kept [] w9 w') := fun W q => by
            rw [← HUS.out]
            exact (HID.out W ((HKb7.out.then' HK79.out).then' q) (HK07.out.then (HK79.out.then q))).mono fun _ _ ⟨h1, h2⟩ => ⟨h1, q.then h2⟩
          have HHAS : Hid (∀ W, Kept [] w9 W → Calls Tryz.prog 21 #[.pointer (some ⟨s, 0, none⟩), .agg us.toArray] W fun e w' => e = .returned (.bool true) ∧ Kept [] w9 w') := fun W q => by
            have h1 := Has_st (HF7.out.on (HK79.out.then q)).st HGD.out
            rw [HHD.out, HUS.out] at h1
            exact h1.mono fun _ _ ⟨h1, h2⟩ => ⟨h1, q.then h2⟩
          have HLEN : Hid (∀ W, Kept [] w9 W → Calls Tryz.prog 22 #[.pointer (some ⟨s, 0, none⟩)] W fun e w' => e = .returned (.int .i64 (Maps.size D2 : Nat)) ∧ Kept [] w9 w') := fun W q => (Len_st (HF7.out.on (HK79.out.then q)).st).mono fun _ _ ⟨h1, h2⟩ => ⟨h1, by rw [h2]; exact q⟩
          have HEQ : Hid (∀ W, (Op.equalIn 10000 36 (.agg us.toArray) (.agg us.toArray)).run Tryz.prog W = .ok true W) := fun W => by
            rw [← HUS.out]
            have h1 := idEq (digL xs) (digL xs) W (digL_len xs) (digL_len xs)
            simpa using h1
          have hsm := HSD.out
          have e1 : (((Maps.size D2 : Nat) : Int) != ((Maps.size D : Nat) : Int)) = false := by simp; omega
          have e2 : (((Maps.size D2 : Nat) : Int) != ((Maps.size D : Nat) : Int) + 1) = true := by simp; omega
          have e3 : IntKind.i64.wrap (((Maps.size D : Nat) : Int) + 1) = ((Maps.size D : Nat) : Int) + 1 := by simp [IntKind.wrap, IntKind.bits, IntKind.signed]; omega
          clear HCS hus hsD hhD HHD
          go_wp2_with (first
            | (refine wpList_store_newS (by rfl) 61 (.tmp 12) (.tmp 58) (by rfl) w8 _ br (by rfl) (by rfl) hos hoz2 hpo ?_; rw [← HW9.out])
            | (go_at_call 17; refine (num4_any _ _).mono ?_; rintro e wn ⟨rfl, hwn⟩; subst wn))
          refine region_quiet (Kept [] w9) (by kernel_rfl) (by kernel_rfl) (Kept.refl [] w9).drew ?_
          with_reducible refine wpQuiet_step ?_
          intro K hK
          rw [if_pos (by go_simp)]
          refine move_at (.tmp 11) rfl (.int .i64 0) rfl (hK _ ?_)
          clear hK K
          simp only [Act.put, List.setIfInBounds_toArray, List.set_cons_zero, List.set_cons_succ]
          with_reducible refine wpQuiet_step ?_
          intro K hK
          rw [if_pos (by go_simp)]
          refine call_at 17 #[.int .i64 0] (.int .i64 0) (fun W => by go_simp) HNUM.out (hK _ ?_)
          clear hK K
          simp only [Act.put, List.setIfInBounds_toArray, List.set_cons_zero, List.set_cons_succ]
          with_reducible refine wpQuiet_step ?_
          intro K hK
          rw [if_pos (by go_simp)]
          refine val_at (.bool false) (fun W => by go_simp) (hK _ ?_)
          clear hK K
          simp only [Act.put, List.setIfInBounds_toArray, List.set_cons_zero, List.set_cons_succ]
          with_reducible refine wpQuiet_step ?_
          intro K hK
          rw [if_pos (by go_simp)]
          refine move_at (.tmp 84) rfl (.bool false) rfl (hK _ ?_)
          clear hK K
          simp only [Act.put, List.setIfInBounds_toArray, List.set_cons_zero, List.set_cons_succ]
          with_reducible refine wpQuiet_step ?_
          intro K hK
          rw [if_pos (by go_simp)]
          refine row_at 36 (.tmp 9) rfl w6.heap.size 0 rfl us _ HRG.out hui rfl hsi (hK _ ?_)
          clear hK K
          simp only [Act.put, List.setIfInBounds_toArray, List.set_cons_zero, List.set_cons_succ]
          with_reducible refine wpQuiet_step ?_
          intro K hK
          rw [if_pos (by go_simp)]
          refine move_at (.tmp 6) rfl (.slice (some ⟨wr.heap.size, 0, none⟩) xs.length xs.length) rfl (hK _ ?_)
          clear hK K
          simp only [Act.put, List.setIfInBounds_toArray, List.set_cons_zero, List.set_cons_succ]
          with_reducible refine wpQuiet_step ?_
          intro K hK
          rw [if_pos (by go_simp)]
          refine call_at 9 #[.slice (some ⟨wr.heap.size, 0, none⟩) xs.length xs.length] (.agg us.toArray) (fun W => by go_simp) HIDC.out (hK _ ?_)
          clear hK K
          simp only [Act.put, List.setIfInBounds_toArray, List.set_cons_zero, List.set_cons_succ]
          with_reducible refine wpQuiet_step ?_
          intro K hK
          rw [if_pos (by go_simp)]
          refine neq_at (.tmp 86) (.tmp 88) _ rfl us.toArray us.toArray rfl rfl true HEQ.out (hK _ ?_)
          clear hK K
          simp only [Act.put, List.setIfInBounds_toArray, List.set_cons_zero, List.set_cons_succ]
          with_reducible refine wpQuiet_step ?_
          intro K hK
          rw [if_pos (by go_simp)]
          refine val_at (.bool false) (fun W => by go_simp) (hK _ ?_)
          clear hK K
          simp only [Act.put, List.setIfInBounds_toArray, List.set_cons_zero, List.set_cons_succ]
          with_reducible refine wpQuiet_step ?_
          intro K hK
          rw [if_pos (by go_simp)]
          refine move_at (.tmp 90) rfl (.bool false) rfl (hK _ ?_)
          clear hK K
          simp only [Act.put, List.setIfInBounds_toArray, List.set_cons_zero, List.set_cons_succ]
          with_reducible refine wpQuiet_step ?_
          intro K hK
          rw [if_pos (by go_simp)]
          refine move_at (.tmp 10) rfl (.bool false) rfl (hK _ ?_)
          clear hK K
          simp only [Act.put, List.setIfInBounds_toArray, List.set_cons_zero, List.set_cons_succ]
          with_reducible refine wpQuiet_step ?_
          intro K hK
          rw [if_pos (by go_simp)]
          refine move_at (.tmp 7) rfl (.bool true) rfl (hK _ ?_)
          clear hK K
          simp only [Act.put, List.setIfInBounds_toArray, List.set_cons_zero, List.set_cons_succ]
          with_reducible refine wpQuiet_step ?_
          intro K hK
          rw [if_pos (by go_simp)]
          refine val_at (.bool false) (fun W => by go_simp) (hK _ ?_)
          clear hK K
          simp only [Act.put, List.setIfInBounds_toArray, List.set_cons_zero, List.set_cons_succ]
          with_reducible refine wpQuiet_step ?_
          intro K hK
          rw [if_pos (by go_simp)]
          refine val_at (.bool false) (fun W => by go_simp) (hK _ ?_)
          clear hK K
          simp only [Act.put, List.setIfInBounds_toArray, List.set_cons_zero, List.set_cons_succ]
          with_reducible refine wpQuiet_step ?_
          intro K hK
          rw [if_pos (by go_simp)]
          refine move_at (.tmp 95) rfl (.bool false) rfl (hK _ ?_)
          clear hK K
          simp only [Act.put, List.setIfInBounds_toArray, List.set_cons_zero, List.set_cons_succ]
          with_reducible refine wpQuiet_step ?_
          intro K hK
          rw [if_pos (by go_simp)]
          refine move_at (.tmp 4) rfl (.pointer (some ⟨s, 0, none⟩)) rfl (hK _ ?_)
          clear hK K
          simp only [Act.put, List.setIfInBounds_toArray, List.set_cons_zero, List.set_cons_succ]
          with_reducible refine wpQuiet_step ?_
          intro K hK
          rw [if_pos (by go_simp)]
          refine row_at 36 (.tmp 9) rfl w6.heap.size 0 rfl us _ HRG.out hui rfl hsi (hK _ ?_)
          clear hK K
          simp only [Act.put, List.setIfInBounds_toArray, List.set_cons_zero, List.set_cons_succ]
          with_reducible refine wpQuiet_step ?_
          intro K hK
          rw [if_pos (by go_simp)]
          refine call_at 21 #[.pointer (some ⟨s, 0, none⟩), .agg us.toArray] (.bool true) (fun W => by go_simp) HHAS.out (hK _ ?_)
          clear hK K
          simp only [Act.put, List.setIfInBounds_toArray, List.set_cons_zero, List.set_cons_succ]
          with_reducible refine wpQuiet_step ?_
          intro K hK
          rw [if_pos (by go_simp)]
          refine val_at (.bool false) (fun W => by go_simp) (hK _ ?_)
          clear hK K
          simp only [Act.put, List.setIfInBounds_toArray, List.set_cons_zero, List.set_cons_succ]
          with_reducible refine wpQuiet_step ?_
          intro K hK
          rw [if_pos (by go_simp)]
          refine val_at (.bool false) (fun W => by go_simp) (hK _ ?_)
          clear hK K
          simp only [Act.put, List.setIfInBounds_toArray, List.set_cons_zero, List.set_cons_succ]
          with_reducible refine wpQuiet_step ?_
          intro K hK
          rw [if_pos (by go_simp)]
          refine move_at (.tmp 101) rfl (.bool false) rfl (hK _ ?_)
          clear hK K
          simp only [Act.put, List.setIfInBounds_toArray, List.set_cons_zero, List.set_cons_succ]
          with_reducible refine wpQuiet_step ?_
          intro K hK
          rw [if_pos (by go_simp)]
          refine move_at (.tmp 4) rfl (.pointer (some ⟨s, 0, none⟩)) rfl (hK _ ?_)
          clear hK K
          simp only [Act.put, List.setIfInBounds_toArray, List.set_cons_zero, List.set_cons_succ]
          with_reducible refine wpQuiet_step ?_
          intro K hK
          rw [if_pos (by go_simp)]
          refine call_at 22 #[.pointer (some ⟨s, 0, none⟩)] (.int .i64 (Maps.size D2 : Nat)) (fun W => by go_simp) HLEN.out (hK _ ?_)
          clear hK K
          simp only [Act.put, List.setIfInBounds_toArray, List.set_cons_zero, List.set_cons_succ]
          with_reducible refine wpQuiet_step ?_
          intro K hK
          rw [if_pos (by go_simp)]
          refine move_at (.tmp 8) rfl (.int .i64 (Maps.size D : Nat)) rfl (hK _ ?_)
          clear hK K
          simp only [Act.put, List.setIfInBounds_toArray, List.set_cons_zero, List.set_cons_succ]
          with_reducible refine wpQuiet_step ?_
          intro K hK
          rw [if_pos (by go_simp)]
          refine val_at (.bool false) (fun W => by go_simp) (hK _ ?_)
          clear hK K
          simp only [Act.put, List.setIfInBounds_toArray, List.set_cons_zero, List.set_cons_succ]
          with_reducible refine wpQuiet_step ?_
          intro K hK
          rw [if_pos (by go_simp)]
          refine move_at (.tmp 106) rfl (.bool false) rfl (hK _ ?_)
          clear hK K
          simp only [Act.put, List.setIfInBounds_toArray, List.set_cons_zero, List.set_cons_succ]
          with_reducible refine wpQuiet_step ?_
          intro K hK
          rw [if_neg (by go_simp)]
          refine hK _ ?_
          clear hK K
          simp only [Act.put, List.setIfInBounds_toArray, List.set_cons_zero, List.set_cons_succ]
          with_reducible refine wpQuiet_step ?_
          intro K hK
          rw [if_pos (by go_simp)]
          refine val_at (.bool false) (fun W => by go_simp) (hK _ ?_)
          clear hK K
          simp only [Act.put, List.setIfInBounds_toArray, List.set_cons_zero, List.set_cons_succ]
          with_reducible refine wpQuiet_step ?_
          intro K hK
          rw [if_pos (by go_simp)]
          refine val_at (.bool false) (fun W => by go_simp) (hK _ ?_)
          clear hK K
          simp only [Act.put, List.setIfInBounds_toArray, List.set_cons_zero, List.set_cons_succ]
          with_reducible refine wpQuiet_step ?_
          intro K hK
          rw [if_pos (by go_simp)]
          refine move_at (.tmp 110) rfl (.bool false) rfl (hK _ ?_)
          clear hK K
          simp only [Act.put, List.setIfInBounds_toArray, List.set_cons_zero, List.set_cons_succ]
          with_reducible refine wpQuiet_step ?_
          intro K hK
          rw [if_pos (by go_simp)]
          refine move_at (.tmp 4) rfl (.pointer (some ⟨s, 0, none⟩)) rfl (hK _ ?_)
          clear hK K
          simp only [Act.put, List.setIfInBounds_toArray, List.set_cons_zero, List.set_cons_succ]
          with_reducible refine wpQuiet_step ?_
          intro K hK
          rw [if_pos (by go_simp)]
          refine call_at 22 #[.pointer (some ⟨s, 0, none⟩)] (.int .i64 (Maps.size D2 : Nat)) (fun W => by go_simp) HLEN.out (hK _ ?_)
          clear hK K
          simp only [Act.put, List.setIfInBounds_toArray, List.set_cons_zero, List.set_cons_succ]
          with_reducible refine wpQuiet_step ?_
          intro K hK
          rw [if_pos (by go_simp)]
          refine move_at (.tmp 8) rfl (.int .i64 (Maps.size D : Nat)) rfl (hK _ ?_)
          clear hK K
          simp only [Act.put, List.setIfInBounds_toArray, List.set_cons_zero, List.set_cons_succ]
          with_reducible refine wpQuiet_step ?_
          intro K hK
          rw [if_pos (by go_simp)]
          refine val_at (.int .i64 ((Maps.size D : Nat) + 1)) (fun W => by go_simp) (hK _ ?_)
          clear hK K
          simp only [Act.put, List.setIfInBounds_toArray, List.set_cons_zero, List.set_cons_succ]
          with_reducible refine wpQuiet_step ?_
          intro K hK
          rw [if_pos (by go_simp)]
          refine val_at (.bool true) (fun W => by go_simp) (hK _ ?_)
          clear hK K
          simp only [Act.put, List.setIfInBounds_toArray, List.set_cons_zero, List.set_cons_succ]
          with_reducible refine wpQuiet_step ?_
          intro K hK
          rw [if_pos (by go_simp)]
          refine move_at (.tmp 116) rfl (.bool true) rfl (hK _ ?_)
          clear hK K
          simp only [Act.put, List.setIfInBounds_toArray, List.set_cons_zero, List.set_cons_succ]
          with_reducible refine wpQuiet_step ?_
          intro K hK
          rw [if_pos (by go_simp)]
          refine move_at (.tmp 7) rfl (.bool true) rfl (hK _ ?_)
          clear hK K
          simp only [Act.put, List.setIfInBounds_toArray, List.set_cons_zero, List.set_cons_succ]
          with_reducible refine wpQuiet_step ?_
          intro K hK
          rw [if_pos (by go_simp)]
          refine val_at (.bool false) (fun W => by go_simp) (hK _ ?_)
          clear hK K
          simp only [Act.put, List.setIfInBounds_toArray, List.set_cons_zero, List.set_cons_succ]
          with_reducible refine wpQuiet_step ?_
          intro K hK
          rw [if_pos (by go_simp)]
          refine val_at (.bool false) (fun W => by go_simp) (hK _ ?_)
          clear hK K
          simp only [Act.put, List.setIfInBounds_toArray, List.set_cons_zero, List.set_cons_succ]
          with_reducible refine wpQuiet_step ?_
          intro K hK
          rw [if_pos (by go_simp)]
          refine val_at (.bool false) (fun W => by go_simp) (hK _ ?_)
          clear hK K
          simp only [Act.put, List.setIfInBounds_toArray, List.set_cons_zero, List.set_cons_succ]
          refine wpQuiet_nil fun w10 k10 => ?_
          have HE : Hid (∃ D n, FlT w10 s b n D ∧ n ≤ k + 1 ∧ Kept [] W0 w10) := HEND.out w10 k10
          clear k10
          go_wp2
          go_roundw
          case rel => exact ⟨k + 1, by omega, by omega, by go_num, HE⟩
          case measure => simp [intOf]; omega
        · subst q1 q2 q3
          have HZ : Hid (z = digL xs) := q4
          have HHD : Hid (Maps.has D2 (idKey (digL xs)) = true) := hhD
          clear q4
          have HNUM : Hid (∀ W, Kept [] w9 W → Calls Tryz.prog 17 #[.int .i64 0] W fun e w' => e = .returned (.int .i64 0) ∧ Kept [] w9 w') := fun W q => (num4_any 0 W).mono fun _ _ ⟨h1, h2⟩ => ⟨h1, by rw [h2]; exact q⟩
          have hui := Tryz.underlying36
          obtain ⟨us, hus⟩ : ∃ us, us = (digL xs).map (Value.int .u8) := ⟨_, rfl⟩
          have HUS : Hid (idC (digL xs) = us.toArray) := by rw [hus]; rfl
          have hsi : (Tryz.prog.info? 36).map (·.size) = some us.length := by rw [hus, List.length_map, digL_len]; exact Tryz.infoID
          have HRG : Hid (∀ W, Kept [] w9 W → W.rangeAt w6.heap.size 0 us) := fun W q => row_range ((HK79.out.then q).heap (show w7.heap[w6.heap.size]? = some (.cells us.toArray 36 (0, 0)) by rw [← HUS.out, ← HZ.out, ← HIC.out]; exact HI7.out) (by simp))
          have HIDC : Hid (∀ W, Kept [] w9 W → Calls Tryz.prog 9 #[.slice (some ⟨wr.heap.size, 0, none⟩) xs.length xs.length] W fun e w' => e = .returned (.agg us.toArray) ∧ Kept [] w9 w') := fun W q => by
            rw [← HUS.out]
            exact (HID.out W ((HKb7.out.then' HK79.out).then' q) (HK07.out.then (HK79.out.then q))).mono fun _ _ ⟨h1, h2⟩ => ⟨h1, q.then h2⟩
          have HHAS : Hid (∀ W, Kept [] w9 W → Calls Tryz.prog 21 #[.pointer (some ⟨s, 0, none⟩), .agg us.toArray] W fun e w' => e = .returned (.bool true) ∧ Kept [] w9 w') := fun W q => by
            have h1 := Has_st (HF7.out.on (HK79.out.then q)).st HGD.out
            rw [HHD.out, HUS.out] at h1
            exact h1.mono fun _ _ ⟨h1, h2⟩ => ⟨h1, q.then h2⟩
          have HLEN : Hid (∀ W, Kept [] w9 W → Calls Tryz.prog 22 #[.pointer (some ⟨s, 0, none⟩)] W fun e w' => e = .returned (.int .i64 (Maps.size D2 : Nat)) ∧ Kept [] w9 w') := fun W q => (Len_st (HF7.out.on (HK79.out.then q)).st).mono fun _ _ ⟨h1, h2⟩ => ⟨h1, by rw [h2]; exact q⟩
          have HEQ : Hid (∀ W, (Op.equalIn 10000 36 (.agg us.toArray) (.agg us.toArray)).run Tryz.prog W = .ok true W) := fun W => by
            rw [← HUS.out]
            have h1 := idEq (digL xs) (digL xs) W (digL_len xs) (digL_len xs)
            simpa using h1
          have hsm := HSD.out
          have e1 : (((Maps.size D2 : Nat) : Int) != ((Maps.size D : Nat) : Int)) = true := by simp; omega
          have e2 : (((Maps.size D2 : Nat) : Int) != ((Maps.size D : Nat) : Int) + 1) = false := by simp; omega
          have e3 : IntKind.i64.wrap (((Maps.size D : Nat) : Int) + 1) = ((Maps.size D : Nat) : Int) + 1 := by simp [IntKind.wrap, IntKind.bits, IntKind.signed]; omega
          clear HCS hus hsD hhD HHD
          go_wp2_with (first
            | (refine wpList_store_newS (by rfl) 61 (.tmp 12) (.tmp 58) (by rfl) w8 _ br (by rfl) (by rfl) hos hoz2 hpo ?_; rw [← HW9.out])
            | (go_at_call 17; refine (num4_any _ _).mono ?_; rintro e wn ⟨rfl, hwn⟩; subst wn))
          refine region_quiet (Kept [] w9) (by kernel_rfl) (by kernel_rfl) (Kept.refl [] w9).drew ?_
          with_reducible refine wpQuiet_step ?_
          intro K hK
          rw [if_pos (by go_simp)]
          refine move_at (.tmp 11) rfl (.int .i64 0) rfl (hK _ ?_)
          clear hK K
          simp only [Act.put, List.setIfInBounds_toArray, List.set_cons_zero, List.set_cons_succ]
          with_reducible refine wpQuiet_step ?_
          intro K hK
          rw [if_pos (by go_simp)]
          refine call_at 17 #[.int .i64 0] (.int .i64 0) (fun W => by go_simp) HNUM.out (hK _ ?_)
          clear hK K
          simp only [Act.put, List.setIfInBounds_toArray, List.set_cons_zero, List.set_cons_succ]
          with_reducible refine wpQuiet_step ?_
          intro K hK
          rw [if_pos (by go_simp)]
          refine val_at (.bool false) (fun W => by go_simp) (hK _ ?_)
          clear hK K
          simp only [Act.put, List.setIfInBounds_toArray, List.set_cons_zero, List.set_cons_succ]
          with_reducible refine wpQuiet_step ?_
          intro K hK
          rw [if_pos (by go_simp)]
          refine move_at (.tmp 84) rfl (.bool false) rfl (hK _ ?_)
          clear hK K
          simp only [Act.put, List.setIfInBounds_toArray, List.set_cons_zero, List.set_cons_succ]
          with_reducible refine wpQuiet_step ?_
          intro K hK
          rw [if_pos (by go_simp)]
          refine row_at 36 (.tmp 9) rfl w6.heap.size 0 rfl us _ HRG.out hui rfl hsi (hK _ ?_)
          clear hK K
          simp only [Act.put, List.setIfInBounds_toArray, List.set_cons_zero, List.set_cons_succ]
          with_reducible refine wpQuiet_step ?_
          intro K hK
          rw [if_pos (by go_simp)]
          refine move_at (.tmp 6) rfl (.slice (some ⟨wr.heap.size, 0, none⟩) xs.length xs.length) rfl (hK _ ?_)
          clear hK K
          simp only [Act.put, List.setIfInBounds_toArray, List.set_cons_zero, List.set_cons_succ]
          with_reducible refine wpQuiet_step ?_
          intro K hK
          rw [if_pos (by go_simp)]
          refine call_at 9 #[.slice (some ⟨wr.heap.size, 0, none⟩) xs.length xs.length] (.agg us.toArray) (fun W => by go_simp) HIDC.out (hK _ ?_)
          clear hK K
          simp only [Act.put, List.setIfInBounds_toArray, List.set_cons_zero, List.set_cons_succ]
          with_reducible refine wpQuiet_step ?_
          intro K hK
          rw [if_pos (by go_simp)]
          refine neq_at (.tmp 86) (.tmp 88) _ rfl us.toArray us.toArray rfl rfl true HEQ.out (hK _ ?_)
          clear hK K
          simp only [Act.put, List.setIfInBounds_toArray, List.set_cons_zero, List.set_cons_succ]
          with_reducible refine wpQuiet_step ?_
          intro K hK
          rw [if_pos (by go_simp)]
          refine val_at (.bool false) (fun W => by go_simp) (hK _ ?_)
          clear hK K
          simp only [Act.put, List.setIfInBounds_toArray, List.set_cons_zero, List.set_cons_succ]
          with_reducible refine wpQuiet_step ?_
          intro K hK
          rw [if_pos (by go_simp)]
          refine move_at (.tmp 90) rfl (.bool false) rfl (hK _ ?_)
          clear hK K
          simp only [Act.put, List.setIfInBounds_toArray, List.set_cons_zero, List.set_cons_succ]
          with_reducible refine wpQuiet_step ?_
          intro K hK
          rw [if_pos (by go_simp)]
          refine move_at (.tmp 10) rfl (.bool true) rfl (hK _ ?_)
          clear hK K
          simp only [Act.put, List.setIfInBounds_toArray, List.set_cons_zero, List.set_cons_succ]
          with_reducible refine wpQuiet_step ?_
          intro K hK
          rw [if_pos (by go_simp)]
          refine move_at (.tmp 7) rfl (.bool false) rfl (hK _ ?_)
          clear hK K
          simp only [Act.put, List.setIfInBounds_toArray, List.set_cons_zero, List.set_cons_succ]
          with_reducible refine wpQuiet_step ?_
          intro K hK
          rw [if_pos (by go_simp)]
          refine val_at (.bool false) (fun W => by go_simp) (hK _ ?_)
          clear hK K
          simp only [Act.put, List.setIfInBounds_toArray, List.set_cons_zero, List.set_cons_succ]
          with_reducible refine wpQuiet_step ?_
          intro K hK
          rw [if_pos (by go_simp)]
          refine val_at (.bool false) (fun W => by go_simp) (hK _ ?_)
          clear hK K
          simp only [Act.put, List.setIfInBounds_toArray, List.set_cons_zero, List.set_cons_succ]
          with_reducible refine wpQuiet_step ?_
          intro K hK
          rw [if_pos (by go_simp)]
          refine move_at (.tmp 95) rfl (.bool false) rfl (hK _ ?_)
          clear hK K
          simp only [Act.put, List.setIfInBounds_toArray, List.set_cons_zero, List.set_cons_succ]
          with_reducible refine wpQuiet_step ?_
          intro K hK
          rw [if_pos (by go_simp)]
          refine move_at (.tmp 4) rfl (.pointer (some ⟨s, 0, none⟩)) rfl (hK _ ?_)
          clear hK K
          simp only [Act.put, List.setIfInBounds_toArray, List.set_cons_zero, List.set_cons_succ]
          with_reducible refine wpQuiet_step ?_
          intro K hK
          rw [if_pos (by go_simp)]
          refine row_at 36 (.tmp 9) rfl w6.heap.size 0 rfl us _ HRG.out hui rfl hsi (hK _ ?_)
          clear hK K
          simp only [Act.put, List.setIfInBounds_toArray, List.set_cons_zero, List.set_cons_succ]
          with_reducible refine wpQuiet_step ?_
          intro K hK
          rw [if_pos (by go_simp)]
          refine call_at 21 #[.pointer (some ⟨s, 0, none⟩), .agg us.toArray] (.bool true) (fun W => by go_simp) HHAS.out (hK _ ?_)
          clear hK K
          simp only [Act.put, List.setIfInBounds_toArray, List.set_cons_zero, List.set_cons_succ]
          with_reducible refine wpQuiet_step ?_
          intro K hK
          rw [if_pos (by go_simp)]
          refine val_at (.bool false) (fun W => by go_simp) (hK _ ?_)
          clear hK K
          simp only [Act.put, List.setIfInBounds_toArray, List.set_cons_zero, List.set_cons_succ]
          with_reducible refine wpQuiet_step ?_
          intro K hK
          rw [if_pos (by go_simp)]
          refine val_at (.bool false) (fun W => by go_simp) (hK _ ?_)
          clear hK K
          simp only [Act.put, List.setIfInBounds_toArray, List.set_cons_zero, List.set_cons_succ]
          with_reducible refine wpQuiet_step ?_
          intro K hK
          rw [if_pos (by go_simp)]
          refine move_at (.tmp 101) rfl (.bool false) rfl (hK _ ?_)
          clear hK K
          simp only [Act.put, List.setIfInBounds_toArray, List.set_cons_zero, List.set_cons_succ]
          with_reducible refine wpQuiet_step ?_
          intro K hK
          rw [if_pos (by go_simp)]
          refine move_at (.tmp 4) rfl (.pointer (some ⟨s, 0, none⟩)) rfl (hK _ ?_)
          clear hK K
          simp only [Act.put, List.setIfInBounds_toArray, List.set_cons_zero, List.set_cons_succ]
          with_reducible refine wpQuiet_step ?_
          intro K hK
          rw [if_pos (by go_simp)]
          refine call_at 22 #[.pointer (some ⟨s, 0, none⟩)] (.int .i64 (Maps.size D2 : Nat)) (fun W => by go_simp) HLEN.out (hK _ ?_)
          clear hK K
          simp only [Act.put, List.setIfInBounds_toArray, List.set_cons_zero, List.set_cons_succ]
          with_reducible refine wpQuiet_step ?_
          intro K hK
          rw [if_pos (by go_simp)]
          refine move_at (.tmp 8) rfl (.int .i64 (Maps.size D : Nat)) rfl (hK _ ?_)
          clear hK K
          simp only [Act.put, List.setIfInBounds_toArray, List.set_cons_zero, List.set_cons_succ]
          with_reducible refine wpQuiet_step ?_
          intro K hK
          rw [if_pos (by go_simp)]
          refine val_at (.bool true) (fun W => by go_simp) (hK _ ?_)
          clear hK K
          simp only [Act.put, List.setIfInBounds_toArray, List.set_cons_zero, List.set_cons_succ]
          with_reducible refine wpQuiet_step ?_
          intro K hK
          rw [if_pos (by go_simp)]
          refine move_at (.tmp 106) rfl (.bool true) rfl (hK _ ?_)
          clear hK K
          simp only [Act.put, List.setIfInBounds_toArray, List.set_cons_zero, List.set_cons_succ]
          with_reducible refine wpQuiet_step ?_
          intro K hK
          rw [if_pos (by go_simp)]
          refine move_at (.tmp 7) rfl (.bool false) rfl (hK _ ?_)
          clear hK K
          simp only [Act.put, List.setIfInBounds_toArray, List.set_cons_zero, List.set_cons_succ]
          with_reducible refine wpQuiet_step ?_
          intro K hK
          rw [if_pos (by go_simp)]
          refine val_at (.bool false) (fun W => by go_simp) (hK _ ?_)
          clear hK K
          simp only [Act.put, List.setIfInBounds_toArray, List.set_cons_zero, List.set_cons_succ]
          with_reducible refine wpQuiet_step ?_
          intro K hK
          rw [if_pos (by go_simp)]
          refine val_at (.bool false) (fun W => by go_simp) (hK _ ?_)
          clear hK K
          simp only [Act.put, List.setIfInBounds_toArray, List.set_cons_zero, List.set_cons_succ]
          with_reducible refine wpQuiet_step ?_
          intro K hK
          rw [if_pos (by go_simp)]
          refine move_at (.tmp 110) rfl (.bool false) rfl (hK _ ?_)
          clear hK K
          simp only [Act.put, List.setIfInBounds_toArray, List.set_cons_zero, List.set_cons_succ]
          with_reducible refine wpQuiet_step ?_
          intro K hK
          rw [if_pos (by go_simp)]
          refine move_at (.tmp 4) rfl (.pointer (some ⟨s, 0, none⟩)) rfl (hK _ ?_)
          clear hK K
          simp only [Act.put, List.setIfInBounds_toArray, List.set_cons_zero, List.set_cons_succ]
          with_reducible refine wpQuiet_step ?_
          intro K hK
          rw [if_pos (by go_simp)]
          refine call_at 22 #[.pointer (some ⟨s, 0, none⟩)] (.int .i64 (Maps.size D2 : Nat)) (fun W => by go_simp) HLEN.out (hK _ ?_)
          clear hK K
          simp only [Act.put, List.setIfInBounds_toArray, List.set_cons_zero, List.set_cons_succ]
          with_reducible refine wpQuiet_step ?_
          intro K hK
          rw [if_pos (by go_simp)]
          refine move_at (.tmp 8) rfl (.int .i64 (Maps.size D : Nat)) rfl (hK _ ?_)
          clear hK K
          simp only [Act.put, List.setIfInBounds_toArray, List.set_cons_zero, List.set_cons_succ]
          with_reducible refine wpQuiet_step ?_
          intro K hK
          rw [if_pos (by go_simp)]
          refine val_at (.int .i64 ((Maps.size D : Nat) + 1)) (fun W => by go_simp) (hK _ ?_)
          clear hK K
          simp only [Act.put, List.setIfInBounds_toArray, List.set_cons_zero, List.set_cons_succ]
          with_reducible refine wpQuiet_step ?_
          intro K hK
          rw [if_pos (by go_simp)]
          refine val_at (.bool false) (fun W => by go_simp) (hK _ ?_)
          clear hK K
          simp only [Act.put, List.setIfInBounds_toArray, List.set_cons_zero, List.set_cons_succ]
          with_reducible refine wpQuiet_step ?_
          intro K hK
          rw [if_pos (by go_simp)]
          refine move_at (.tmp 116) rfl (.bool false) rfl (hK _ ?_)
          clear hK K
          simp only [Act.put, List.setIfInBounds_toArray, List.set_cons_zero, List.set_cons_succ]
          with_reducible refine wpQuiet_step ?_
          intro K hK
          rw [if_neg (by go_simp)]
          refine hK _ ?_
          clear hK K
          simp only [Act.put, List.setIfInBounds_toArray, List.set_cons_zero, List.set_cons_succ]
          with_reducible refine wpQuiet_step ?_
          intro K hK
          rw [if_neg (by go_simp)]
          refine hK _ ?_
          clear hK K
          simp only [Act.put, List.setIfInBounds_toArray, List.set_cons_zero, List.set_cons_succ]
          with_reducible refine wpQuiet_step ?_
          intro K hK
          rw [if_pos (by go_simp)]
          refine val_at (.bool false) (fun W => by go_simp) (hK _ ?_)
          clear hK K
          simp only [Act.put, List.setIfInBounds_toArray, List.set_cons_zero, List.set_cons_succ]
          with_reducible refine wpQuiet_step ?_
          intro K hK
          rw [if_pos (by go_simp)]
          refine val_at (.bool false) (fun W => by go_simp) (hK _ ?_)
          clear hK K
          simp only [Act.put, List.setIfInBounds_toArray, List.set_cons_zero, List.set_cons_succ]
          refine wpQuiet_nil fun w10 k10 => ?_
          have HE : Hid (∃ D n, FlT w10 s b n D ∧ n ≤ k + 1 ∧ Kept [] W0 w10) := HEND.out w10 k10
          clear k10
          go_wp2
          go_roundw
          case rel => exact ⟨k + 1, by omega, by omega, by go_num, HE⟩
          case measure => simp [intOf]; omega
      · have hput := Put_bad HFL5.out.st (some ⟨wr.heap.size, 0, none⟩) xs.length xs.length pe hp0 (fun W q => HPR.out W ((HK5.out.then q).more (by simp)) (HK05.out.then q))
        go_wp2_with fail
        go_at_call 11
        refine hput.mono ?_
        rintro e w6 ⟨rfl, hst6, k6⟩
        obtain ⟨w7, hw7⟩ : ∃ w7, w7 = w6.alloc (.cells (idC zid) 36) := ⟨_, rfl⟩
        have HW7 : Hid (w7 = w6.alloc (.cells (idC zid) 36)) := hw7
        have k67 : Kept [] w6 w7 := by rw [hw7]; exact (Kept.refl _ _).alloc _
        have HK7 : Hid (Kept [] w5 w7) := k6.then k67
        have hpar := HPR.out w7 ((HK5.out.then HK7.out).more (by simp)) (HK05.out.then HK7.out)
        have hzs : (Tryz.prog.info? 36).map (·.size) = some (idC zid).size := by kernel_rfl
        have hzone : (idC zid).all (·.oneCell') = true := by kernel_rfl
        clear hput hst6 k6 k67 hw7
        have hlz : (idC zid).size = (idC zid).size := rfl
        go_wp2_with (first
          | (refine wpList_store_newS (by rfl) 36 (.tmp 9) (.tmp 52) (by rfl) w6 _ (idC zid) (by rfl) (by rfl) hzs rfl hzone ?_; rw [← HW7.out]))
        go_at_call 23
        refine hpar.mono ?_
        rintro e w8 ⟨br, rfl, hoz, hpo, k8⟩
        have hos : (Tryz.prog.info? 61).map (·.size) = some br.size := by rw [hoz]; kernel_rfl
        have hoz2 : Tryz.zeroCells61.size = br.size := by rw [hoz]; kernel_rfl
        obtain ⟨w9, hw9⟩ : ∃ w9, w9 = w8.alloc (.cells br 61) := ⟨_, rfl⟩
        have HW9 : Hid (w9 = w8.alloc (.cells br 61)) := hw9
        have k89 : Kept [] w8 w9 := by rw [hw9]; exact (Kept.refl _ _).alloc _
        have HK9 : Hid (Kept [] w5 w9) := HK7.out.then (k8.then k89)
        have hlen9 := Len_st (HFL5.out.on HK9.out).st
        have HE : Hid (∃ D n, FlT w9 s b n D ∧ n ≤ k + 1 ∧ Kept [] W0 w9) := ⟨D, n, HFL5.out.on HK9.out, by omega, HK05.out.then HK9.out⟩
        have tp : (pe != 0) = true := by simpa using hp0
        clear hpar hoz k8 hw9 k89
        go_wp2_with (first
          | (refine wpList_store_newS (by rfl) 61 (.tmp 12) (.tmp 58) (by rfl) w8 _ br (by rfl) (by rfl) hos hoz2 hpo ?_; rw [← HW9.out])
          | (go_at_call 17; refine (num4_any _ _).mono ?_; rintro e wn ⟨rfl, hwn⟩; subst wn)
          | (go_at_call 22; refine hlen9.mono ?_; rintro e wq ⟨rfl, hwq⟩; subst wq))
        go_roundw
        case rel => exact ⟨k + 1, by omega, by omega, by go_num, HE⟩
        case measure => simp [intOf]; omega
    · -- THE SECOND LOOP
      obtain ⟨D, n, hfl, hnk, hkr⟩ := HR.out
      have HFR : Hid (∃ D n, FlT wr s b n D ∧ n ≤ 80 ∧ Kept [] W0 wr) := ⟨D, n, hfl, by omega, hkr⟩
      have HSW : Hid (w.heap.size ≤ W0.heap.size) := HK0.out.size
      obtain ⟨c0, c1⟩ := HC.out wr hkr
      clear HR hfl hnk hkr
      by_cases hq : k < L.length
      · have t1 : decide ((k : Int) < (L.length : Int)) = true := decide_eq_true (by omega)
        have t2 : decide ((k : Int) < 80) = false := decide_eq_false (by omega)
        go_wp2
        go_loopw [14, 15, 16] (fun s14 _ _ wr => ∃ j : Nat, j ≤ G.length ∧ j ≤ 80 ∧ s14 = .int .i64 j ∧ Hid (∃ D n, FlT wr s b n D ∧ n ≤ 80 ∧ Kept [] W0 wr)) (fun s14 _ _ _ => G.length - (intOf s14).toNat)
        case atStart => exact ⟨0, Nat.zero_le _, Nat.zero_le _, rfl, HFR.out⟩
        case round =>
          obtain ⟨j, hj, hj80, rfl, HR2⟩ := hrel
          obtain ⟨D2, n2, hf2, hn2, hk2⟩ := HR2.out
          have HF2 : Hid (FlT wr s b n2 D2) := hf2
          have HN2 : Hid (n2 ≤ 80) := hn2
          have HKR : Hid (Kept [] W0 wr) := hk2
          obtain ⟨d0, d1⟩ := HC.out wr hk2
          clear HR2 hf2 hn2 hk2 HFR
          by_cases hj1 : j < G.length
          · by_cases hj2 : j < 80
            · by_cases hj3 : 0 < L.length
              · obtain ⟨z, hz⟩ : ∃ z, G[j]? = some z := ⟨_, List.getElem?_eq_getElem hj1⟩
                obtain ⟨ao1, cap1, he, _, hgb, hgc⟩ := (HL.out wr HKR.out).2
                obtain ⟨gb, gf, rfl, hgcell⟩ := hgc (fun e => by rw [e] at hj1; simp at hj1)
                injection he with he1 _ he3
                subst he1 he3
                obtain ⟨ao1, cap1, he, _, hoc, hcl⟩ := (HL.out wr HKR.out).1
                obtain ⟨eb, ef, rfl, hcm⟩ := hcl (fun e => by rw [e] at hj3; simp at hj3)
                injection he with he1 _ he3
                subst he1 he3
                have hz0 := hgb z (List.mem_of_getElem? hz)
                obtain ⟨i, hi⟩ : ∃ i : Nat, z % (L.length : Int) = i := ⟨(z % (L.length : Int)).toNat, by have := Int.emod_nonneg z (show (L.length : Int) ≠ 0 by omega); omega⟩
                have hil : i < L.length := by have := Int.emod_lt_of_pos z (show (0 : Int) < (L.length : Int) by omega); omega
                obtain ⟨xs, hxs⟩ : ∃ xs, L[i]? = some xs := ⟨_, List.getElem?_eq_getElem hil⟩
                obtain ⟨u, hcu, hbu⟩ := hcm i xs hxs
                obtain ⟨ho, hxl⟩ := hoc xs (List.mem_of_getElem? hxs)
                have hinto := fun W => into4_any z (L.length : Int) W (by omega) (by omega) hz0.1 hz0.2
                rw [hi] at hinto
                obtain ⟨ic, hic⟩ : ∃ ic, ic = idC (digL xs) := ⟨_, rfl⟩
                obtain ⟨us, hus⟩ : ∃ us, us = (digL xs).map (Value.int .u8) := ⟨_, rfl⟩
                have HUS : Hid (ic = us.toArray) := by rw [hic, hus]; rfl
                have hsi : (Tryz.prog.info? 36).map (·.size) = some us.length := by rw [hus, List.length_map, digL_len]; exact Tryz.infoID
                have hui := Tryz.underlying36
                have hi32 : ic.size = 32 := by rw [hic, idC_size (digL_len xs)]
                have hsz : (Tryz.prog.info? 36).map (·.size) = some ic.size := by rw [hi32]; exact Tryz.infoID
                have hone : ic.all (·.oneCell') = true := by rw [hic]; exact all_oneCell_toArray (map_oneCell _)
                have HID : Hid (∀ W, Kept [] wr W → Calls Tryz.prog 9 #[u] W fun e w' => e = .returned (.agg ic) ∧ Kept [] W w') := fun W q => by
                  rw [hic]
                  exact Id_any u xs W (HV.out W (HKR.out.then q)).1 (hbu.kept' q (fun _ _ _ => by simp)) ho (by omega)
                have hgd : GoodID (digL xs) := ⟨digL_len xs, digL_octs xs⟩
                obtain ⟨was, hwas⟩ : ∃ was, was = Maps.has D2 (idKey (digL xs)) := ⟨_, rfl⟩
                have HHS : Hid (∀ W, FlT W s b n2 D2 → Calls Tryz.prog 21 #[.pointer (some ⟨s, 0, none⟩), .agg us.toArray] W fun e w' => e = .returned (.bool was) ∧ Kept [] W w') := fun W q => by
                  have h1 := Has_st q.st hgd
                  rw [← hwas, ← hic, HUS.out] at h1
                  exact h1
                have HHS2 : Hid (∀ W D3, FlT W s b n2 D3 → Maps.has D3 (idKey (digL xs)) = false → Calls Tryz.prog 21 #[.pointer (some ⟨s, 0, none⟩), .agg us.toArray] W fun e w' => e = .returned (.bool false) ∧ Kept [] W w') := fun W D3 q hq => by
                  have h1 := Has_st q.st hgd
                  rw [hq, ← hic, HUS.out] at h1
                  exact h1
                have HRM : Hid (∀ W, FlT W s b n2 D2 → Calls Tryz.prog 10 #[.pointer (some ⟨s, 0, none⟩), .agg us.toArray] W fun e w' => e = .returned (.bool was) ∧ St w' s b n2 (D2.del (idKey (digL xs))) ∧ Kept [b] W w') := fun W q => by
                  have h1 := Remove_st q.st hgd
                  rw [← hwas, ← hic, HUS.out] at h1
                  exact h1
                obtain ⟨uo, uc, rfl, _⟩ := hbu
                have HC2 : Hid (∀ W, Kept [] wr W → W.cell? ⟨w.heap.size, 0, none⟩ = some (.slice (some ⟨eb, ef, none⟩) L.length ec) ∧ W.cell? ⟨w.heap.size, 1, none⟩ = some (.slice (some ⟨gb, gf, none⟩) G.length gc)) := fun W q => HC.out W (HKR.out.then q)
                have HZ : Hid (∀ W, Kept [] wr W → W.cell? ⟨gb, gf + j, none⟩ = some (.int .i64 z)) := fun W q => q.cell (hgcell j z hz) (by simp)
                have HU : Hid (∀ W, Kept [] wr W → W.cell? ⟨eb, ef + i, none⟩ = some (.slice uo xs.length uc)) := fun W q => q.cell hcu (by simp)
                have u1 : decide ((j : Int) < (G.length : Int)) = true := decide_eq_true (by omega)
                have u2 : decide ((j : Int) < 80) = true := decide_eq_true (by omega)
                have u3 : decide ((0 : Int) < (L.length : Int)) = true := decide_eq_true (by omega)
                clear hgc hcl hcm hgcell hoc hgb hz hxs hcu hic hus hwas hi hgd
                go_wp2_with fail
                refine wp_region_held_drew (S := Kept [] wr) (by kernel_rfl) (Kept.refl [] wr).drew (fun hHeld => ?_)
                refine takeP 0 (v := .pointer (some ⟨w.heap.size, 0, none⟩)) (some 140) #[true, false, false, false, false, false, false, false, false, false, false, false, false, false, false, false] rfl rfl rfl (by kernel_rfl) (by kernel_rfl) (by kernel_rfl) (fun _ _ _ h => h) (Or.inl ⟨by rfl, fun W hSW => by go_simp⟩) hHeld ?_
                simp only [Act.put, List.setIfInBounds_toArray, List.set_cons_zero, List.set_cons_succ]
                refine takeP 1 (v := .slice (some ⟨eb, ef, none⟩) L.length ec) (some 141) #[true, true, false, false, false, false, false, false, false, false, false, false, false, false, false, false] rfl rfl rfl (by kernel_rfl) (by kernel_rfl) (by kernel_rfl) (fun _ _ _ h => h) (Or.inl ⟨by rfl, fun W hSW => by have hcc := (HC2.out W hSW).1; go_simp⟩) hHeld ?_
                simp only [Act.put, List.setIfInBounds_toArray, List.set_cons_zero, List.set_cons_succ]
                refine takeP 2 (v := .pointer (some ⟨w.heap.size, 1, none⟩)) (some 142) #[true, true, true, false, false, false, false, false, false, false, false, false, false, false, false, false] rfl rfl rfl (by kernel_rfl) (by kernel_rfl) (by kernel_rfl) (fun _ _ _ h => h) (Or.inl ⟨by rfl, fun W hSW => by go_simp⟩) hHeld ?_
                simp only [Act.put, List.setIfInBounds_toArray, List.set_cons_zero, List.set_cons_succ]
                refine takeP 3 (v := .slice (some ⟨gb, gf, none⟩) G.length gc) (some 143) #[true, true, true, true, false, false, false, false, false, false, false, false, false, false, false, false] rfl rfl rfl (by kernel_rfl) (by kernel_rfl) (by kernel_rfl) (fun _ _ _ h => h) (Or.inl ⟨by rfl, fun W hSW => by have hcc := (HC2.out W hSW).2; go_simp⟩) hHeld ?_
                simp only [Act.put, List.setIfInBounds_toArray, List.set_cons_zero, List.set_cons_succ]
                refine takeP 4 (v := .int .i64 j) (some 144) #[true, true, true, true, true, false, false, false, false, false, false, false, false, false, false, false] rfl rfl rfl (by kernel_rfl) (by kernel_rfl) (by kernel_rfl) (fun _ _ _ h => h) (Or.inl ⟨by rfl, fun W hSW => by go_simp⟩) hHeld ?_
                simp only [Act.put, List.setIfInBounds_toArray, List.set_cons_zero, List.set_cons_succ]
                refine takeP 5 (v := .pointer (some ⟨gb, gf + j, none⟩)) (some 145) #[true, true, true, true, true, true, false, false, false, false, false, false, false, false, false, false] rfl rfl rfl (by kernel_rfl) (by kernel_rfl) (by kernel_rfl) (fun _ _ _ h => h) (Or.inl ⟨by rfl, fun W hSW => by go_simp⟩) hHeld ?_
                simp only [Act.put, List.setIfInBounds_toArray, List.set_cons_zero, List.set_cons_succ]
                refine takeP 6 (v := .int .i64 z) (some 146) #[true, true, true, true, true, true, true, false, false, false, false, false, false, false, false, false] rfl rfl rfl (by kernel_rfl) (by kernel_rfl) (by kernel_rfl) (fun _ _ _ h => h) (Or.inl ⟨by rfl, fun W hSW => by have hcc := HZ.out W hSW; go_simp⟩) hHeld ?_
                simp only [Act.put, List.setIfInBounds_toArray, List.set_cons_zero, List.set_cons_succ]
                refine takeP 7 (v := .pointer (some ⟨w.heap.size, 0, none⟩)) (some 147) #[true, true, true, true, true, true, true, true, false, false, false, false, false, false, false, false] rfl rfl rfl (by kernel_rfl) (by kernel_rfl) (by kernel_rfl) (fun _ _ _ h => h) (Or.inl ⟨by rfl, fun W hSW => by go_simp⟩) hHeld ?_
                simp only [Act.put, List.setIfInBounds_toArray, List.set_cons_zero, List.set_cons_succ]
                refine takeP 8 (v := .slice (some ⟨eb, ef, none⟩) L.length ec) (some 148) #[true, true, true, true, true, true, true, true, true, false, false, false, false, false, false, false] rfl rfl rfl (by kernel_rfl) (by kernel_rfl) (by kernel_rfl) (fun _ _ _ h => h) (Or.inl ⟨by rfl, fun W hSW => by have hcc := (HC2.out W hSW).1; go_simp⟩) hHeld ?_
                simp only [Act.put, List.setIfInBounds_toArray, List.set_cons_zero, List.set_cons_succ]
                refine takeP 9 (v := .int .i64 L.length) (some 149) #[true, true, true, true, true, true, true, true, true, true, false, false, false, false, false, false] rfl rfl rfl (by kernel_rfl) (by kernel_rfl) (by kernel_rfl) (fun _ _ _ h => h) (Or.inl ⟨by rfl, fun W hSW => by go_simp⟩) hHeld ?_
                simp only [Act.put, List.setIfInBounds_toArray, List.set_cons_zero, List.set_cons_succ]
                refine wpAnyH_ready (rs := [10, 14]) (by kernel_rfl) (by simp) (AllReadyH.cons rfl (fun K hK => ?_) (AllReadyH.cons rfl (fun K hK => ?_) AllReadyH.nil))
                · rw [if_pos (by rfl)]
                  go_simp
                  refine (hinto _).mono ?_
                  rintro e wi ⟨rfl, hwi⟩
                  subst wi
                  refine hK.out _ _ hHeld (fun hHeld => ?_)
                  clear hK K
                  simp only [List.setIfInBounds_toArray, List.set_cons_zero, List.set_cons_succ]
                  refine takeP 11 (v := .pointer (some ⟨eb, ef + i, none⟩)) (some 151) #[true, true, true, true, true, true, true, true, true, true, true, true, false, false, false, false] rfl rfl rfl (by kernel_rfl) (by kernel_rfl) (by kernel_rfl) (fun _ _ _ h => h) (Or.inl ⟨by rfl, fun W hSW => by go_simp⟩) hHeld ?_
                  simp only [Act.put, List.setIfInBounds_toArray, List.set_cons_zero, List.set_cons_succ]
                  refine takeP 12 (v := .slice uo xs.length uc) (some 152) #[true, true, true, true, true, true, true, true, true, true, true, true, true, false, false, false] rfl rfl rfl (by kernel_rfl) (by kernel_rfl) (by kernel_rfl) (fun _ _ _ h => h) (Or.inl ⟨by rfl, fun W hSW => by have hcc := HU.out W hSW; go_simp⟩) hHeld ?_
                  simp only [Act.put, List.setIfInBounds_toArray, List.set_cons_zero, List.set_cons_succ]
                  refine wpAnyH_ready (rs := [13, 14]) (by kernel_rfl) (by simp) (AllReadyH.cons rfl (fun K hK => ?_) (AllReadyH.cons rfl (fun K hK => ?_) AllReadyH.nil))
                  · rw [if_pos (by rfl)]
                    go_simp
                    refine (HID.out _ hHeld).mono ?_
                    rintro e w8 ⟨rfl, k8⟩
                    have hHeld8 := hHeld.then k8
                    refine hK.out _ _ hHeld8 (fun hHeld => ?_)
                    clear hK K
                    simp only [List.setIfInBounds_toArray, List.set_cons_zero, List.set_cons_succ]
                    refine wpAnyH_ready (rs := [14]) (by kernel_rfl) (by simp) (AllReadyH.cons rfl (fun K hK => ?_) AllReadyH.nil)
                    rw [if_pos (by rfl)]
                    go_simp
                    refine alloc_letter (n := 32) rfl (fun W1 Z1 hz1 hb1 hs1 hk1 => ?_)
                    clear hs1
                    refine hK.out _ _ (hHeld.then hk1.out) (fun hHeld => ?_)
                    clear hK K
                    simp only [List.setIfInBounds_toArray, List.set_cons_zero, List.set_cons_succ]
                    have hbl : Hid (W1.heap[w8.heap.size]? = some (.cells Z1 36 (0, 0))) := hb1.out
                    have hwb : Hid (wr.heap.size ≤ w8.heap.size) := hHeld8.size
                    refine wpAnyH_ready (rs := [15]) (by kernel_rfl) (by simp) (AllReadyH.cons rfl (fun K hK => ?_) AllReadyH.nil)
                    rw [if_pos (by rfl)]
                    refine wp_store_row 36 (.tmp 15) (.tmp 153) rfl w8.heap.size ic rfl rfl 36 _ hbl.out hsz (hz1.out.trans hi32.symm) hone ?_
                    refine hK.out _ _ (hHeld.setRowN hwb.out _) (fun hHeld => ?_)
                    clear hK K
                    refine wpAnyH_done (by kernel_rfl) ?_ _
                    have HI3 : Hid ((W1.setRow w8.heap.size ic).heap[w8.heap.size]? = some (.cells ic 36 (0, 0))) := setRow_heap _ _ _ _ _ _ hbl.out
                    have HK3 : Hid (Kept [] wr (W1.setRow w8.heap.size ic)) := hHeld
                    have HBB : Hid (wr.heap.size ≤ w8.heap.size) := hwb.out
                    clear hHeld hbl hwb hz1 hb1 hk1 k8 hHeld8
                    generalize W1.setRow w8.heap.size ic = W3 at *
                    generalize w8.heap.size = bi at *
                    simp only [Act.put, List.setIfInBounds_toArray]
                    have HF3 : Hid (FlT W3 s b n2 D2) := HF2.out.on HK3.out
                    have HRG : Hid (∀ W, Kept [b] W3 W → W.rangeAt bi 0 us) := fun W q => row_range (q.heap (show W3.heap[bi]? = some (.cells us.toArray 36 (0, 0)) by rw [← HUS.out]; exact HI3.out) (by have := HF2.out.st.lt.2; have := HBB.out; simp; omega))
                    have hr3 := HRG.out W3 (Kept.refl _ _)
                    have hhas := HHS.out W3 HF3.out
                    go_wp2_with (first
                      | (refine wpList_load_mid (by rfl) 36 (.tmp 15) (by rfl) bi 0 (by rfl) us _ hr3 hui rfl hsi ?_))
                    go_at_call 21
                    refine hhas.mono ?_
                    rintro e w4 ⟨rfl, k4⟩
                    have HF4 : Hid (FlT w4 s b n2 D2) := HF3.out.on k4
                    have HR4 : Hid (∀ W, Kept [b] w4 W → W.rangeAt bi 0 us) := fun W q => HRG.out W ((k4.more (by simp)).then'' q)
                    have HK4 : Hid (Kept [] W0 w4) := (HKR.out.then HK3.out).then k4
                    have hr4 := HR4.out w4 (Kept.refl _ _)
                    have hrm := HRM.out w4 HF4.out
                    clear hr3 hhas k4 HRG HF3
                    go_wp2_with (first
                      | (refine wpList_load_mid (by rfl) 36 (.tmp 15) (by rfl) bi 0 (by rfl) us _ hr4 hui rfl hsi ?_))
                    go_at_call 10
                    refine hrm.mono ?_
                    rintro e w5 ⟨rfl, hst5, k5⟩
                    have HF5 : Hid (FlT w5 s b n2 (D2.del (idKey (digL xs)))) := HF4.out.del k5 hst5
                    have hr5 := HR4.out w5 k5
                    have hhas5 := HHS2.out w5 _ HF5.out Maps.has_del_same
                    have HK5 : Hid (Kept [] W0 w5) := kept_newP HK4.out k5 HB.out.2
                    have twas : (was != was) = false := by cases was <;> rfl
                    clear hrm hr4 hst5 k5 HR4 HF4
                    go_wp2_with (first
                      | (refine wantedS (by rfl) fun K hK => wp_load_mid 36 (.tmp 15) (by rfl) bi 0 (by rfl) us _ hr5 hui rfl hsi (hK _ _ ?_)))
                    go_at_call 21
                    refine hhas5.mono ?_
                    rintro e w6 ⟨rfl, k6⟩
                    have HE : Hid (∃ D n, FlT w6 s b n D ∧ n ≤ 80 ∧ Kept [] W0 w6) := ⟨_, _, HF5.out.on k6, HN2.out, HK5.out.then k6⟩
                    clear hhas5 k6 hr5 HF5 twas
                    go_wp2
                    go_roundw
                    case rel => exact ⟨j + 1, by omega, by omega, by go_num, HE⟩
                    case measure => simp [intOf]; omega
                  · rw [if_pos (by rfl)]
                    go_simp
                    refine alloc_letterd (n := 32) rfl (fun W1 Z1 hz1 hb1 hs1 hk1 => ?_)
                    clear hs1
                    refine hK.out _ _ hk1.out (fun hHeld => ?_)
                    clear hK K
                    simp only [List.setIfInBounds_toArray, List.set_cons_zero, List.set_cons_succ]
                    refine wpAnyH_ready (rs := [13]) (by kernel_rfl) (by simp) (AllReadyH.cons rfl (fun K hK => ?_) AllReadyH.nil)
                    rw [if_pos (by rfl)]
                    go_simp
                    refine (HID.out _ hHeld).mono ?_
                    rintro e w8 ⟨rfl, k8⟩
                    have hHeld8 := hHeld.then k8
                    refine hK.out _ _ hHeld8 (fun hHeld => ?_)
                    clear hK K
                    simp only [List.setIfInBounds_toArray, List.set_cons_zero, List.set_cons_succ]
                    have hbl : Hid (w8.heap[wr.heap.size]? = some (.cells Z1 36 (0, 0))) := (k8.heap hb1.out (by simp))
                    have hwb : Hid (wr.heap.size ≤ wr.heap.size) := Nat.le_refl _
                    refine wpAnyH_ready (rs := [15]) (by kernel_rfl) (by simp) (AllReadyH.cons rfl (fun K hK => ?_) AllReadyH.nil)
                    rw [if_pos (by rfl)]
                    refine wp_store_row 36 (.tmp 15) (.tmp 153) rfl wr.heap.size ic rfl rfl 36 _ hbl.out hsz (hz1.out.trans hi32.symm) hone ?_
                    refine hK.out _ _ (hHeld.setRowN hwb.out _) (fun hHeld => ?_)
                    clear hK K
                    refine wpAnyH_done (by kernel_rfl) ?_ _
                    have HI3 : Hid ((w8.setRow wr.heap.size ic).heap[wr.heap.size]? = some (.cells ic 36 (0, 0))) := setRow_heap _ _ _ _ _ _ hbl.out
                    have HK3 : Hid (Kept [] wr (w8.setRow wr.heap.size ic)) := hHeld
                    have HBB : Hid (wr.heap.size ≤ wr.heap.size) := hwb.out
                    clear hHeld hbl hwb hz1 hb1 hk1 k8 hHeld8
                    generalize w8.setRow wr.heap.size ic = W3 at *
                    obtain ⟨bi, hbi⟩ : ∃ bi, bi = wr.heap.size := ⟨_, rfl⟩
                    replace HBB : Hid (wr.heap.size ≤ bi) := Nat.le_of_eq hbi.symm
                    rw [← hbi] at HI3 ⊢
                    clear hbi
                    simp only [Act.put, List.setIfInBounds_toArray]
                    have HF3 : Hid (FlT W3 s b n2 D2) := HF2.out.on HK3.out
                    have HRG : Hid (∀ W, Kept [b] W3 W → W.rangeAt bi 0 us) := fun W q => row_range (q.heap (show W3.heap[bi]? = some (.cells us.toArray 36 (0, 0)) by rw [← HUS.out]; exact HI3.out) (by have := HF2.out.st.lt.2; have := HBB.out; simp; omega))
                    have hr3 := HRG.out W3 (Kept.refl _ _)
                    have hhas := HHS.out W3 HF3.out
                    go_wp2_with (first
                      | (refine wpList_load_mid (by rfl) 36 (.tmp 15) (by rfl) bi 0 (by rfl) us _ hr3 hui rfl hsi ?_))
                    go_at_call 21
                    refine hhas.mono ?_
                    rintro e w4 ⟨rfl, k4⟩
                    have HF4 : Hid (FlT w4 s b n2 D2) := HF3.out.on k4
                    have HR4 : Hid (∀ W, Kept [b] w4 W → W.rangeAt bi 0 us) := fun W q => HRG.out W ((k4.more (by simp)).then'' q)
                    have HK4 : Hid (Kept [] W0 w4) := (HKR.out.then HK3.out).then k4
                    have hr4 := HR4.out w4 (Kept.refl _ _)
                    have hrm := HRM.out w4 HF4.out
                    clear hr3 hhas k4 HRG HF3
                    go_wp2_with (first
                      | (refine wpList_load_mid (by rfl) 36 (.tmp 15) (by rfl) bi 0 (by rfl) us _ hr4 hui rfl hsi ?_))
                    go_at_call 10
                    refine hrm.mono ?_
                    rintro e w5 ⟨rfl, hst5, k5⟩
                    have HF5 : Hid (FlT w5 s b n2 (D2.del (idKey (digL xs)))) := HF4.out.del k5 hst5
                    have hr5 := HR4.out w5 k5
                    have hhas5 := HHS2.out w5 _ HF5.out Maps.has_del_same
                    have HK5 : Hid (Kept [] W0 w5) := kept_newP HK4.out k5 HB.out.2
                    have twas : (was != was) = false := by cases was <;> rfl
                    clear hrm hr4 hst5 k5 HR4 HF4
                    go_wp2_with (first
                      | (refine wantedS (by rfl) fun K hK => wp_load_mid 36 (.tmp 15) (by rfl) bi 0 (by rfl) us _ hr5 hui rfl hsi (hK _ _ ?_)))
                    go_at_call 21
                    refine hhas5.mono ?_
                    rintro e w6 ⟨rfl, k6⟩
                    have HE : Hid (∃ D n, FlT w6 s b n D ∧ n ≤ 80 ∧ Kept [] W0 w6) := ⟨_, _, HF5.out.on k6, HN2.out, HK5.out.then k6⟩
                    clear hhas5 k6 hr5 HF5 twas
                    go_wp2
                    go_roundw
                    case rel => exact ⟨j + 1, by omega, by omega, by go_num, HE⟩
                    case measure => simp [intOf]; omega
                · rw [if_pos (by rfl)]
                  go_simp
                  refine alloc_letterd (n := 32) rfl (fun W1 Z1 hz1 hb1 hs1 hk1 => ?_)
                  clear hs1
                  refine hK.out _ _ hk1.out (fun hHeld => ?_)
                  clear hK K
                  simp only [List.setIfInBounds_toArray, List.set_cons_zero, List.set_cons_succ]
                  refine wpAnyH_ready (rs := [10]) (by kernel_rfl) (by simp) (AllReadyH.cons rfl (fun K hK => ?_) AllReadyH.nil)
                  rw [if_pos (by rfl)]
                  go_simp
                  refine (hinto _).mono ?_
                  rintro e wi ⟨rfl, hwi⟩
                  subst wi
                  refine hK.out _ _ hHeld (fun hHeld => ?_)
                  clear hK K
                  simp only [List.setIfInBounds_toArray, List.set_cons_zero, List.set_cons_succ]
                  refine takeP 11 (v := .pointer (some ⟨eb, ef + i, none⟩)) (some 151) #[true, true, true, true, true, true, true, true, true, true, true, true, false, false, true, false] rfl rfl rfl (by kernel_rfl) (by kernel_rfl) (by kernel_rfl) (fun _ _ _ h => h) (Or.inl ⟨by rfl, fun W hSW => by go_simp⟩) hHeld ?_
                  simp only [Act.put, List.setIfInBounds_toArray, List.set_cons_zero, List.set_cons_succ]
                  refine takeP 12 (v := .slice uo xs.length uc) (some 152) #[true, true, true, true, true, true, true, true, true, true, true, true, true, false, true, false] rfl rfl rfl (by kernel_rfl) (by kernel_rfl) (by kernel_rfl) (fun _ _ _ h => h) (Or.inl ⟨by rfl, fun W hSW => by have hcc := HU.out W hSW; go_simp⟩) hHeld ?_
                  simp only [Act.put, List.setIfInBounds_toArray, List.set_cons_zero, List.set_cons_succ]
                  refine wpAnyH_ready (rs := [13]) (by kernel_rfl) (by simp) (AllReadyH.cons rfl (fun K hK => ?_) AllReadyH.nil)
                  rw [if_pos (by rfl)]
                  go_simp
                  refine (HID.out _ hHeld).mono ?_
                  rintro e w8 ⟨rfl, k8⟩
                  have hHeld8 := hHeld.then k8
                  refine hK.out _ _ hHeld8 (fun hHeld => ?_)
                  clear hK K
                  simp only [List.setIfInBounds_toArray, List.set_cons_zero, List.set_cons_succ]
                  have hbl : Hid (w8.heap[wr.heap.size]? = some (.cells Z1 36 (0, 0))) := (k8.heap hb1.out (by simp))
                  have hwb : Hid (wr.heap.size ≤ wr.heap.size) := Nat.le_refl _
                  refine wpAnyH_ready (rs := [15]) (by kernel_rfl) (by simp) (AllReadyH.cons rfl (fun K hK => ?_) AllReadyH.nil)
                  rw [if_pos (by rfl)]
                  refine wp_store_row 36 (.tmp 15) (.tmp 153) rfl wr.heap.size ic rfl rfl 36 _ hbl.out hsz (hz1.out.trans hi32.symm) hone ?_
                  refine hK.out _ _ (hHeld.setRowN hwb.out _) (fun hHeld => ?_)
                  clear hK K
                  refine wpAnyH_done (by kernel_rfl) ?_ _
                  have HI3 : Hid ((w8.setRow wr.heap.size ic).heap[wr.heap.size]? = some (.cells ic 36 (0, 0))) := setRow_heap _ _ _ _ _ _ hbl.out
                  have HK3 : Hid (Kept [] wr (w8.setRow wr.heap.size ic)) := hHeld
                  have HBB : Hid (wr.heap.size ≤ wr.heap.size) := hwb.out
                  clear hHeld hbl hwb hz1 hb1 hk1 k8 hHeld8
                  generalize w8.setRow wr.heap.size ic = W3 at *
                  obtain ⟨bi, hbi⟩ : ∃ bi, bi = wr.heap.size := ⟨_, rfl⟩
                  replace HBB : Hid (wr.heap.size ≤ bi) := Nat.le_of_eq hbi.symm
                  rw [← hbi] at HI3 ⊢
                  clear hbi
                  simp only [Act.put, List.setIfInBounds_toArray]
                  have HF3 : Hid (FlT W3 s b n2 D2) := HF2.out.on HK3.out
                  have HRG : Hid (∀ W, Kept [b] W3 W → W.rangeAt bi 0 us) := fun W q => row_range (q.heap (show W3.heap[bi]? = some (.cells us.toArray 36 (0, 0)) by rw [← HUS.out]; exact HI3.out) (by have := HF2.out.st.lt.2; have := HBB.out; simp; omega))
                  have hr3 := HRG.out W3 (Kept.refl _ _)
                  have hhas := HHS.out W3 HF3.out
                  go_wp2_with (first
                    | (refine wpList_load_mid (by rfl) 36 (.tmp 15) (by rfl) bi 0 (by rfl) us _ hr3 hui rfl hsi ?_))
                  go_at_call 21
                  refine hhas.mono ?_
                  rintro e w4 ⟨rfl, k4⟩
                  have HF4 : Hid (FlT w4 s b n2 D2) := HF3.out.on k4
                  have HR4 : Hid (∀ W, Kept [b] w4 W → W.rangeAt bi 0 us) := fun W q => HRG.out W ((k4.more (by simp)).then'' q)
                  have HK4 : Hid (Kept [] W0 w4) := (HKR.out.then HK3.out).then k4
                  have hr4 := HR4.out w4 (Kept.refl _ _)
                  have hrm := HRM.out w4 HF4.out
                  clear hr3 hhas k4 HRG HF3
                  go_wp2_with (first
                    | (refine wpList_load_mid (by rfl) 36 (.tmp 15) (by rfl) bi 0 (by rfl) us _ hr4 hui rfl hsi ?_))
                  go_at_call 10
                  refine hrm.mono ?_
                  rintro e w5 ⟨rfl, hst5, k5⟩
                  have HF5 : Hid (FlT w5 s b n2 (D2.del (idKey (digL xs)))) := HF4.out.del k5 hst5
                  have hr5 := HR4.out w5 k5
                  have hhas5 := HHS2.out w5 _ HF5.out Maps.has_del_same
                  have HK5 : Hid (Kept [] W0 w5) := kept_newP HK4.out k5 HB.out.2
                  have twas : (was != was) = false := by cases was <;> rfl
                  clear hrm hr4 hst5 k5 HR4 HF4
                  go_wp2_with (first
                    | (refine wantedS (by rfl) fun K hK => wp_load_mid 36 (.tmp 15) (by rfl) bi 0 (by rfl) us _ hr5 hui rfl hsi (hK _ _ ?_)))
                  go_at_call 21
                  refine hhas5.mono ?_
                  rintro e w6 ⟨rfl, k6⟩
                  have HE : Hid (∃ D n, FlT w6 s b n D ∧ n ≤ 80 ∧ Kept [] W0 w6) := ⟨_, _, HF5.out.on k6, HN2.out, HK5.out.then k6⟩
                  clear hhas5 k6 hr5 HF5 twas
                  go_wp2
                  go_roundw
                  case rel => exact ⟨j + 1, by omega, by omega, by go_num, HE⟩
                  case measure => simp [intOf]; omega
              · have u1 : decide ((j : Int) < (G.length : Int)) = true := decide_eq_true (by omega)
                have u2 : decide ((j : Int) < 80) = true := decide_eq_true (by omega)
                have u3 : decide ((0 : Int) < (L.length : Int)) = false := decide_eq_false (by omega)
                exact (hj3 (by omega)).elim
            · have u1 : decide ((j : Int) < (G.length : Int)) = true := decide_eq_true (by omega)
              have u2 : decide ((j : Int) < 80) = false := decide_eq_false (by omega)
              obtain ⟨c1, d1⟩ := HC.out wr HKR.out
              go_wp2
              refine bodyPost_ret (v := .tuple #[.pointer (some ⟨s, 0, none⟩), .bool true]) (by simp [results, Tryz.results5, go_sem]) rfl ⟨s, b, n2, D2, rfl, HF2.out, HN2.out, Nat.le_trans HSW.out HB.out.1, Nat.le_trans HSW.out HB.out.2, HK0.out.then HKR.out⟩
          · have u1 : decide ((j : Int) < (G.length : Int)) = false := decide_eq_false (by omega)
            obtain ⟨c1, d1⟩ := HC.out wr HKR.out
            go_wp2
            refine bodyPost_ret (v := .tuple #[.pointer (some ⟨s, 0, none⟩), .bool true]) (by simp [results, Tryz.results5, go_sem]) rfl ⟨s, b, n2, D2, rfl, HF2.out, HN2.out, Nat.le_trans HSW.out HB.out.1, Nat.le_trans HSW.out HB.out.2, HK0.out.then HKR.out⟩
      · have t1 : decide ((k : Int) < (L.length : Int)) = false := decide_eq_false (by omega)
        go_wp2
        go_loopw [14, 15, 16] (fun s14 _ _ wr => ∃ j : Nat, j ≤ G.length ∧ j ≤ 80 ∧ s14 = .int .i64 j ∧ Hid (∃ D n, FlT wr s b n D ∧ n ≤ 80 ∧ Kept [] W0 wr)) (fun s14 _ _ _ => G.length - (intOf s14).toNat)
        case atStart => exact ⟨0, Nat.zero_le _, Nat.zero_le _, rfl, HFR.out⟩
        case round =>
          obtain ⟨j, hj, hj80, rfl, HR2⟩ := hrel
          obtain ⟨D2, n2, hf2, hn2, hk2⟩ := HR2.out
          have HF2 : Hid (FlT wr s b n2 D2) := hf2
          have HN2 : Hid (n2 ≤ 80) := hn2
          have HKR : Hid (Kept [] W0 wr) := hk2
          obtain ⟨d0, d1⟩ := HC.out wr hk2
          clear HR2 hf2 hn2 hk2 HFR
          by_cases hj1 : j < G.length
          · by_cases hj2 : j < 80
            · by_cases hj3 : 0 < L.length
              · obtain ⟨z, hz⟩ : ∃ z, G[j]? = some z := ⟨_, List.getElem?_eq_getElem hj1⟩
                obtain ⟨ao1, cap1, he, _, hgb, hgc⟩ := (HL.out wr HKR.out).2
                obtain ⟨gb, gf, rfl, hgcell⟩ := hgc (fun e => by rw [e] at hj1; simp at hj1)
                injection he with he1 _ he3
                subst he1 he3
                obtain ⟨ao1, cap1, he, _, hoc, hcl⟩ := (HL.out wr HKR.out).1
                obtain ⟨eb, ef, rfl, hcm⟩ := hcl (fun e => by rw [e] at hj3; simp at hj3)
                injection he with he1 _ he3
                subst he1 he3
                have hz0 := hgb z (List.mem_of_getElem? hz)
                obtain ⟨i, hi⟩ : ∃ i : Nat, z % (L.length : Int) = i := ⟨(z % (L.length : Int)).toNat, by have := Int.emod_nonneg z (show (L.length : Int) ≠ 0 by omega); omega⟩
                have hil : i < L.length := by have := Int.emod_lt_of_pos z (show (0 : Int) < (L.length : Int) by omega); omega
                obtain ⟨xs, hxs⟩ : ∃ xs, L[i]? = some xs := ⟨_, List.getElem?_eq_getElem hil⟩
                obtain ⟨u, hcu, hbu⟩ := hcm i xs hxs
                obtain ⟨ho, hxl⟩ := hoc xs (List.mem_of_getElem? hxs)
                have hinto := fun W => into4_any z (L.length : Int) W (by omega) (by omega) hz0.1 hz0.2
                rw [hi] at hinto
                obtain ⟨ic, hic⟩ : ∃ ic, ic = idC (digL xs) := ⟨_, rfl⟩
                obtain ⟨us, hus⟩ : ∃ us, us = (digL xs).map (Value.int .u8) := ⟨_, rfl⟩
                have HUS : Hid (ic = us.toArray) := by rw [hic, hus]; rfl
                have hsi : (Tryz.prog.info? 36).map (·.size) = some us.length := by rw [hus, List.length_map, digL_len]; exact Tryz.infoID
                have hui := Tryz.underlying36
                have hi32 : ic.size = 32 := by rw [hic, idC_size (digL_len xs)]
                have hsz : (Tryz.prog.info? 36).map (·.size) = some ic.size := by rw [hi32]; exact Tryz.infoID
                have hone : ic.all (·.oneCell') = true := by rw [hic]; exact all_oneCell_toArray (map_oneCell _)
                have HID : Hid (∀ W, Kept [] wr W → Calls Tryz.prog 9 #[u] W fun e w' => e = .returned (.agg ic) ∧ Kept [] W w') := fun W q => by
                  rw [hic]
                  exact Id_any u xs W (HV.out W (HKR.out.then q)).1 (hbu.kept' q (fun _ _ _ => by simp)) ho (by omega)
                have hgd : GoodID (digL xs) := ⟨digL_len xs, digL_octs xs⟩
                obtain ⟨was, hwas⟩ : ∃ was, was = Maps.has D2 (idKey (digL xs)) := ⟨_, rfl⟩
                have HHS : Hid (∀ W, FlT W s b n2 D2 → Calls Tryz.prog 21 #[.pointer (some ⟨s, 0, none⟩), .agg us.toArray] W fun e w' => e = .returned (.bool was) ∧ Kept [] W w') := fun W q => by
                  have h1 := Has_st q.st hgd
                  rw [← hwas, ← hic, HUS.out] at h1
                  exact h1
                have HHS2 : Hid (∀ W D3, FlT W s b n2 D3 → Maps.has D3 (idKey (digL xs)) = false → Calls Tryz.prog 21 #[.pointer (some ⟨s, 0, none⟩), .agg us.toArray] W fun e w' => e = .returned (.bool false) ∧ Kept [] W w') := fun W D3 q hq => by
                  have h1 := Has_st q.st hgd
                  rw [hq, ← hic, HUS.out] at h1
                  exact h1
                have HRM : Hid (∀ W, FlT W s b n2 D2 → Calls Tryz.prog 10 #[.pointer (some ⟨s, 0, none⟩), .agg us.toArray] W fun e w' => e = .returned (.bool was) ∧ St w' s b n2 (D2.del (idKey (digL xs))) ∧ Kept [b] W w') := fun W q => by
                  have h1 := Remove_st q.st hgd
                  rw [← hwas, ← hic, HUS.out] at h1
                  exact h1
                obtain ⟨uo, uc, rfl, _⟩ := hbu
                have HC2 : Hid (∀ W, Kept [] wr W → W.cell? ⟨w.heap.size, 0, none⟩ = some (.slice (some ⟨eb, ef, none⟩) L.length ec) ∧ W.cell? ⟨w.heap.size, 1, none⟩ = some (.slice (some ⟨gb, gf, none⟩) G.length gc)) := fun W q => HC.out W (HKR.out.then q)
                have HZ : Hid (∀ W, Kept [] wr W → W.cell? ⟨gb, gf + j, none⟩ = some (.int .i64 z)) := fun W q => q.cell (hgcell j z hz) (by simp)
                have HU : Hid (∀ W, Kept [] wr W → W.cell? ⟨eb, ef + i, none⟩ = some (.slice uo xs.length uc)) := fun W q => q.cell hcu (by simp)
                have u1 : decide ((j : Int) < (G.length : Int)) = true := decide_eq_true (by omega)
                have u2 : decide ((j : Int) < 80) = true := decide_eq_true (by omega)
                have u3 : decide ((0 : Int) < (L.length : Int)) = true := decide_eq_true (by omega)
                clear hgc hcl hcm hgcell hoc hgb hz hxs hcu hic hus hwas hi hgd
                go_wp2_with fail
                refine wp_region_held_drew (S := Kept [] wr) (by kernel_rfl) (Kept.refl [] wr).drew (fun hHeld => ?_)
                refine takeP 0 (v := .pointer (some ⟨w.heap.size, 0, none⟩)) (some 140) #[true, false, false, false, false, false, false, false, false, false, false, false, false, false, false, false] rfl rfl rfl (by kernel_rfl) (by kernel_rfl) (by kernel_rfl) (fun _ _ _ h => h) (Or.inl ⟨by rfl, fun W hSW => by go_simp⟩) hHeld ?_
                simp only [Act.put, List.setIfInBounds_toArray, List.set_cons_zero, List.set_cons_succ]
                refine takeP 1 (v := .slice (some ⟨eb, ef, none⟩) L.length ec) (some 141) #[true, true, false, false, false, false, false, false, false, false, false, false, false, false, false, false] rfl rfl rfl (by kernel_rfl) (by kernel_rfl) (by kernel_rfl) (fun _ _ _ h => h) (Or.inl ⟨by rfl, fun W hSW => by have hcc := (HC2.out W hSW).1; go_simp⟩) hHeld ?_
                simp only [Act.put, List.setIfInBounds_toArray, List.set_cons_zero, List.set_cons_succ]
                refine takeP 2 (v := .pointer (some ⟨w.heap.size, 1, none⟩)) (some 142) #[true, true, true, false, false, false, false, false, false, false, false, false, false, false, false, false] rfl rfl rfl (by kernel_rfl) (by kernel_rfl) (by kernel_rfl) (fun _ _ _ h => h) (Or.inl ⟨by rfl, fun W hSW => by go_simp⟩) hHeld ?_
                simp only [Act.put, List.setIfInBounds_toArray, List.set_cons_zero, List.set_cons_succ]
                refine takeP 3 (v := .slice (some ⟨gb, gf, none⟩) G.length gc) (some 143) #[true, true, true, true, false, false, false, false, false, false, false, false, false, false, false, false] rfl rfl rfl (by kernel_rfl) (by kernel_rfl) (by kernel_rfl) (fun _ _ _ h => h) (Or.inl ⟨by rfl, fun W hSW => by have hcc := (HC2.out W hSW).2; go_simp⟩) hHeld ?_
                simp only [Act.put, List.setIfInBounds_toArray, List.set_cons_zero, List.set_cons_succ]
                refine takeP 4 (v := .int .i64 j) (some 144) #[true, true, true, true, true, false, false, false, false, false, false, false, false, false, false, false] rfl rfl rfl (by kernel_rfl) (by kernel_rfl) (by kernel_rfl) (fun _ _ _ h => h) (Or.inl ⟨by rfl, fun W hSW => by go_simp⟩) hHeld ?_
                simp only [Act.put, List.setIfInBounds_toArray, List.set_cons_zero, List.set_cons_succ]
                refine takeP 5 (v := .pointer (some ⟨gb, gf + j, none⟩)) (some 145) #[true, true, true, true, true, true, false, false, false, false, false, false, false, false, false, false] rfl rfl rfl (by kernel_rfl) (by kernel_rfl) (by kernel_rfl) (fun _ _ _ h => h) (Or.inl ⟨by rfl, fun W hSW => by go_simp⟩) hHeld ?_
                simp only [Act.put, List.setIfInBounds_toArray, List.set_cons_zero, List.set_cons_succ]
                refine takeP 6 (v := .int .i64 z) (some 146) #[true, true, true, true, true, true, true, false, false, false, false, false, false, false, false, false] rfl rfl rfl (by kernel_rfl) (by kernel_rfl) (by kernel_rfl) (fun _ _ _ h => h) (Or.inl ⟨by rfl, fun W hSW => by have hcc := HZ.out W hSW; go_simp⟩) hHeld ?_
                simp only [Act.put, List.setIfInBounds_toArray, List.set_cons_zero, List.set_cons_succ]
                refine takeP 7 (v := .pointer (some ⟨w.heap.size, 0, none⟩)) (some 147) #[true, true, true, true, true, true, true, true, false, false, false, false, false, false, false, false] rfl rfl rfl (by kernel_rfl) (by kernel_rfl) (by kernel_rfl) (fun _ _ _ h => h) (Or.inl ⟨by rfl, fun W hSW => by go_simp⟩) hHeld ?_
                simp only [Act.put, List.setIfInBounds_toArray, List.set_cons_zero, List.set_cons_succ]
                refine takeP 8 (v := .slice (some ⟨eb, ef, none⟩) L.length ec) (some 148) #[true, true, true, true, true, true, true, true, true, false, false, false, false, false, false, false] rfl rfl rfl (by kernel_rfl) (by kernel_rfl) (by kernel_rfl) (fun _ _ _ h => h) (Or.inl ⟨by rfl, fun W hSW => by have hcc := (HC2.out W hSW).1; go_simp⟩) hHeld ?_
                simp only [Act.put, List.setIfInBounds_toArray, List.set_cons_zero, List.set_cons_succ]
                refine takeP 9 (v := .int .i64 L.length) (some 149) #[true, true, true, true, true, true, true, true, true, true, false, false, false, false, false, false] rfl rfl rfl (by kernel_rfl) (by kernel_rfl) (by kernel_rfl) (fun _ _ _ h => h) (Or.inl ⟨by rfl, fun W hSW => by go_simp⟩) hHeld ?_
                simp only [Act.put, List.setIfInBounds_toArray, List.set_cons_zero, List.set_cons_succ]
                refine wpAnyH_ready (rs := [10, 14]) (by kernel_rfl) (by simp) (AllReadyH.cons rfl (fun K hK => ?_) (AllReadyH.cons rfl (fun K hK => ?_) AllReadyH.nil))
                · rw [if_pos (by rfl)]
                  go_simp
                  refine (hinto _).mono ?_
                  rintro e wi ⟨rfl, hwi⟩
                  subst wi
                  refine hK.out _ _ hHeld (fun hHeld => ?_)
                  clear hK K
                  simp only [List.setIfInBounds_toArray, List.set_cons_zero, List.set_cons_succ]
                  refine takeP 11 (v := .pointer (some ⟨eb, ef + i, none⟩)) (some 151) #[true, true, true, true, true, true, true, true, true, true, true, true, false, false, false, false] rfl rfl rfl (by kernel_rfl) (by kernel_rfl) (by kernel_rfl) (fun _ _ _ h => h) (Or.inl ⟨by rfl, fun W hSW => by go_simp⟩) hHeld ?_
                  simp only [Act.put, List.setIfInBounds_toArray, List.set_cons_zero, List.set_cons_succ]
                  refine takeP 12 (v := .slice uo xs.length uc) (some 152) #[true, true, true, true, true, true, true, true, true, true, true, true, true, false, false, false] rfl rfl rfl (by kernel_rfl) (by kernel_rfl) (by kernel_rfl) (fun _ _ _ h => h) (Or.inl ⟨by rfl, fun W hSW => by have hcc := HU.out W hSW; go_simp⟩) hHeld ?_
                  simp only [Act.put, List.setIfInBounds_toArray, List.set_cons_zero, List.set_cons_succ]
                  refine wpAnyH_ready (rs := [13, 14]) (by kernel_rfl) (by simp) (AllReadyH.cons rfl (fun K hK => ?_) (AllReadyH.cons rfl (fun K hK => ?_) AllReadyH.nil))
                  · rw [if_pos (by rfl)]
                    go_simp
                    refine (HID.out _ hHeld).mono ?_
                    rintro e w8 ⟨rfl, k8⟩
                    have hHeld8 := hHeld.then k8
                    refine hK.out _ _ hHeld8 (fun hHeld => ?_)
                    clear hK K
                    simp only [List.setIfInBounds_toArray, List.set_cons_zero, List.set_cons_succ]
                    refine wpAnyH_ready (rs := [14]) (by kernel_rfl) (by simp) (AllReadyH.cons rfl (fun K hK => ?_) AllReadyH.nil)
                    rw [if_pos (by rfl)]
                    go_simp
                    refine alloc_letter (n := 32) rfl (fun W1 Z1 hz1 hb1 hs1 hk1 => ?_)
                    clear hs1
                    refine hK.out _ _ (hHeld.then hk1.out) (fun hHeld => ?_)
                    clear hK K
                    simp only [List.setIfInBounds_toArray, List.set_cons_zero, List.set_cons_succ]
                    have hbl : Hid (W1.heap[w8.heap.size]? = some (.cells Z1 36 (0, 0))) := hb1.out
                    have hwb : Hid (wr.heap.size ≤ w8.heap.size) := hHeld8.size
                    refine wpAnyH_ready (rs := [15]) (by kernel_rfl) (by simp) (AllReadyH.cons rfl (fun K hK => ?_) AllReadyH.nil)
                    rw [if_pos (by rfl)]
                    refine wp_store_row 36 (.tmp 15) (.tmp 153) rfl w8.heap.size ic rfl rfl 36 _ hbl.out hsz (hz1.out.trans hi32.symm) hone ?_
                    refine hK.out _ _ (hHeld.setRowN hwb.out _) (fun hHeld => ?_)
                    clear hK K
                    refine wpAnyH_done (by kernel_rfl) ?_ _
                    have HI3 : Hid ((W1.setRow w8.heap.size ic).heap[w8.heap.size]? = some (.cells ic 36 (0, 0))) := setRow_heap _ _ _ _ _ _ hbl.out
                    have HK3 : Hid (Kept [] wr (W1.setRow w8.heap.size ic)) := hHeld
                    have HBB : Hid (wr.heap.size ≤ w8.heap.size) := hwb.out
                    clear hHeld hbl hwb hz1 hb1 hk1 k8 hHeld8
                    generalize W1.setRow w8.heap.size ic = W3 at *
                    generalize w8.heap.size = bi at *
                    simp only [Act.put, List.setIfInBounds_toArray]
                    have HF3 : Hid (FlT W3 s b n2 D2) := HF2.out.on HK3.out
                    have HRG : Hid (∀ W, Kept [b] W3 W → W.rangeAt bi 0 us) := fun W q => row_range (q.heap (show W3.heap[bi]? = some (.cells us.toArray 36 (0, 0)) by rw [← HUS.out]; exact HI3.out) (by have := HF2.out.st.lt.2; have := HBB.out; simp; omega))
                    have hr3 := HRG.out W3 (Kept.refl _ _)
                    have hhas := HHS.out W3 HF3.out
                    go_wp2_with (first
                      | (refine wpList_load_mid (by rfl) 36 (.tmp 15) (by rfl) bi 0 (by rfl) us _ hr3 hui rfl hsi ?_))
                    go_at_call 21
                    refine hhas.mono ?_
                    rintro e w4 ⟨rfl, k4⟩
                    have HF4 : Hid (FlT w4 s b n2 D2) := HF3.out.on k4
                    have HR4 : Hid (∀ W, Kept [b] w4 W → W.rangeAt bi 0 us) := fun W q => HRG.out W ((k4.more (by simp)).then'' q)
                    have HK4 : Hid (Kept [] W0 w4) := (HKR.out.then HK3.out).then k4
                    have hr4 := HR4.out w4 (Kept.refl _ _)
                    have hrm := HRM.out w4 HF4.out
                    clear hr3 hhas k4 HRG HF3
                    go_wp2_with (first
                      | (refine wpList_load_mid (by rfl) 36 (.tmp 15) (by rfl) bi 0 (by rfl) us _ hr4 hui rfl hsi ?_))
                    go_at_call 10
                    refine hrm.mono ?_
                    rintro e w5 ⟨rfl, hst5, k5⟩
                    have HF5 : Hid (FlT w5 s b n2 (D2.del (idKey (digL xs)))) := HF4.out.del k5 hst5
                    have hr5 := HR4.out w5 k5
                    have hhas5 := HHS2.out w5 _ HF5.out Maps.has_del_same
                    have HK5 : Hid (Kept [] W0 w5) := kept_newP HK4.out k5 HB.out.2
                    have twas : (was != was) = false := by cases was <;> rfl
                    clear hrm hr4 hst5 k5 HR4 HF4
                    go_wp2_with (first
                      | (refine wantedS (by rfl) fun K hK => wp_load_mid 36 (.tmp 15) (by rfl) bi 0 (by rfl) us _ hr5 hui rfl hsi (hK _ _ ?_)))
                    go_at_call 21
                    refine hhas5.mono ?_
                    rintro e w6 ⟨rfl, k6⟩
                    have HE : Hid (∃ D n, FlT w6 s b n D ∧ n ≤ 80 ∧ Kept [] W0 w6) := ⟨_, _, HF5.out.on k6, HN2.out, HK5.out.then k6⟩
                    clear hhas5 k6 hr5 HF5 twas
                    go_wp2
                    go_roundw
                    case rel => exact ⟨j + 1, by omega, by omega, by go_num, HE⟩
                    case measure => simp [intOf]; omega
                  · rw [if_pos (by rfl)]
                    go_simp
                    refine alloc_letterd (n := 32) rfl (fun W1 Z1 hz1 hb1 hs1 hk1 => ?_)
                    clear hs1
                    refine hK.out _ _ hk1.out (fun hHeld => ?_)
                    clear hK K
                    simp only [List.setIfInBounds_toArray, List.set_cons_zero, List.set_cons_succ]
                    refine wpAnyH_ready (rs := [13]) (by kernel_rfl) (by simp) (AllReadyH.cons rfl (fun K hK => ?_) AllReadyH.nil)
                    rw [if_pos (by rfl)]
                    go_simp
                    refine (HID.out _ hHeld).mono ?_
                    rintro e w8 ⟨rfl, k8⟩
                    have hHeld8 := hHeld.then k8
                    refine hK.out _ _ hHeld8 (fun hHeld => ?_)
                    clear hK K
                    simp only [List.setIfInBounds_toArray, List.set_cons_zero, List.set_cons_succ]
                    have hbl : Hid (w8.heap[wr.heap.size]? = some (.cells Z1 36 (0, 0))) := (k8.heap hb1.out (by simp))
                    have hwb : Hid (wr.heap.size ≤ wr.heap.size) := Nat.le_refl _
                    refine wpAnyH_ready (rs := [15]) (by kernel_rfl) (by simp) (AllReadyH.cons rfl (fun K hK => ?_) AllReadyH.nil)
                    rw [if_pos (by rfl)]
                    refine wp_store_row 36 (.tmp 15) (.tmp 153) rfl wr.heap.size ic rfl rfl 36 _ hbl.out hsz (hz1.out.trans hi32.symm) hone ?_
                    refine hK.out _ _ (hHeld.setRowN hwb.out _) (fun hHeld => ?_)
                    clear hK K
                    refine wpAnyH_done (by kernel_rfl) ?_ _
                    have HI3 : Hid ((w8.setRow wr.heap.size ic).heap[wr.heap.size]? = some (.cells ic 36 (0, 0))) := setRow_heap _ _ _ _ _ _ hbl.out
                    have HK3 : Hid (Kept [] wr (w8.setRow wr.heap.size ic)) := hHeld
                    have HBB : Hid (wr.heap.size ≤ wr.heap.size) := hwb.out
                    clear hHeld hbl hwb hz1 hb1 hk1 k8 hHeld8
                    generalize w8.setRow wr.heap.size ic = W3 at *
                    obtain ⟨bi, hbi⟩ : ∃ bi, bi = wr.heap.size := ⟨_, rfl⟩
                    replace HBB : Hid (wr.heap.size ≤ bi) := Nat.le_of_eq hbi.symm
                    rw [← hbi] at HI3 ⊢
                    clear hbi
                    simp only [Act.put, List.setIfInBounds_toArray]
                    have HF3 : Hid (FlT W3 s b n2 D2) := HF2.out.on HK3.out
                    have HRG : Hid (∀ W, Kept [b] W3 W → W.rangeAt bi 0 us) := fun W q => row_range (q.heap (show W3.heap[bi]? = some (.cells us.toArray 36 (0, 0)) by rw [← HUS.out]; exact HI3.out) (by have := HF2.out.st.lt.2; have := HBB.out; simp; omega))
                    have hr3 := HRG.out W3 (Kept.refl _ _)
                    have hhas := HHS.out W3 HF3.out
                    go_wp2_with (first
                      | (refine wpList_load_mid (by rfl) 36 (.tmp 15) (by rfl) bi 0 (by rfl) us _ hr3 hui rfl hsi ?_))
                    go_at_call 21
                    refine hhas.mono ?_
                    rintro e w4 ⟨rfl, k4⟩
                    have HF4 : Hid (FlT w4 s b n2 D2) := HF3.out.on k4
                    have HR4 : Hid (∀ W, Kept [b] w4 W → W.rangeAt bi 0 us) := fun W q => HRG.out W ((k4.more (by simp)).then'' q)
                    have HK4 : Hid (Kept [] W0 w4) := (HKR.out.then HK3.out).then k4
                    have hr4 := HR4.out w4 (Kept.refl _ _)
                    have hrm := HRM.out w4 HF4.out
                    clear hr3 hhas k4 HRG HF3
                    go_wp2_with (first
                      | (refine wpList_load_mid (by rfl) 36 (.tmp 15) (by rfl) bi 0 (by rfl) us _ hr4 hui rfl hsi ?_))
                    go_at_call 10
                    refine hrm.mono ?_
                    rintro e w5 ⟨rfl, hst5, k5⟩
                    have HF5 : Hid (FlT w5 s b n2 (D2.del (idKey (digL xs)))) := HF4.out.del k5 hst5
                    have hr5 := HR4.out w5 k5
                    have hhas5 := HHS2.out w5 _ HF5.out Maps.has_del_same
                    have HK5 : Hid (Kept [] W0 w5) := kept_newP HK4.out k5 HB.out.2
                    have twas : (was != was) = false := by cases was <;> rfl
                    clear hrm hr4 hst5 k5 HR4 HF4
                    go_wp2_with (first
                      | (refine wantedS (by rfl) fun K hK => wp_load_mid 36 (.tmp 15) (by rfl) bi 0 (by rfl) us _ hr5 hui rfl hsi (hK _ _ ?_)))
                    go_at_call 21
                    refine hhas5.mono ?_
                    rintro e w6 ⟨rfl, k6⟩
                    have HE : Hid (∃ D n, FlT w6 s b n D ∧ n ≤ 80 ∧ Kept [] W0 w6) := ⟨_, _, HF5.out.on k6, HN2.out, HK5.out.then k6⟩
                    clear hhas5 k6 hr5 HF5 twas
                    go_wp2
                    go_roundw
                    case rel => exact ⟨j + 1, by omega, by omega, by go_num, HE⟩
                    case measure => simp [intOf]; omega
                · rw [if_pos (by rfl)]
                  go_simp
                  refine alloc_letterd (n := 32) rfl (fun W1 Z1 hz1 hb1 hs1 hk1 => ?_)
                  clear hs1
                  refine hK.out _ _ hk1.out (fun hHeld => ?_)
                  clear hK K
                  simp only [List.setIfInBounds_toArray, List.set_cons_zero, List.set_cons_succ]
                  refine wpAnyH_ready (rs := [10]) (by kernel_rfl) (by simp) (AllReadyH.cons rfl (fun K hK => ?_) AllReadyH.nil)
                  rw [if_pos (by rfl)]
                  go_simp
                  refine (hinto _).mono ?_
                  rintro e wi ⟨rfl, hwi⟩
                  subst wi
                  refine hK.out _ _ hHeld (fun hHeld => ?_)
                  clear hK K
                  simp only [List.setIfInBounds_toArray, List.set_cons_zero, List.set_cons_succ]
                  refine takeP 11 (v := .pointer (some ⟨eb, ef + i, none⟩)) (some 151) #[true, true, true, true, true, true, true, true, true, true, true, true, false, false, true, false] rfl rfl rfl (by kernel_rfl) (by kernel_rfl) (by kernel_rfl) (fun _ _ _ h => h) (Or.inl ⟨by rfl, fun W hSW => by go_simp⟩) hHeld ?_
                  simp only [Act.put, List.setIfInBounds_toArray, List.set_cons_zero, List.set_cons_succ]
                  refine takeP 12 (v := .slice uo xs.length uc) (some 152) #[true, true, true, true, true, true, true, true, true, true, true, true, true, false, true, false] rfl rfl rfl (by kernel_rfl) (by kernel_rfl) (by kernel_rfl) (fun _ _ _ h => h) (Or.inl ⟨by rfl, fun W hSW => by have hcc := HU.out W hSW; go_simp⟩) hHeld ?_
                  simp only [Act.put, List.setIfInBounds_toArray, List.set_cons_zero, List.set_cons_succ]
                  refine wpAnyH_ready (rs := [13]) (by kernel_rfl) (by simp) (AllReadyH.cons rfl (fun K hK => ?_) AllReadyH.nil)
                  rw [if_pos (by rfl)]
                  go_simp
                  refine (HID.out _ hHeld).mono ?_
                  rintro e w8 ⟨rfl, k8⟩
                  have hHeld8 := hHeld.then k8
                  refine hK.out _ _ hHeld8 (fun hHeld => ?_)
                  clear hK K
                  simp only [List.setIfInBounds_toArray, List.set_cons_zero, List.set_cons_succ]
                  have hbl : Hid (w8.heap[wr.heap.size]? = some (.cells Z1 36 (0, 0))) := (k8.heap hb1.out (by simp))
                  have hwb : Hid (wr.heap.size ≤ wr.heap.size) := Nat.le_refl _
                  refine wpAnyH_ready (rs := [15]) (by kernel_rfl) (by simp) (AllReadyH.cons rfl (fun K hK => ?_) AllReadyH.nil)
                  rw [if_pos (by rfl)]
                  refine wp_store_row 36 (.tmp 15) (.tmp 153) rfl wr.heap.size ic rfl rfl 36 _ hbl.out hsz (hz1.out.trans hi32.symm) hone ?_
                  refine hK.out _ _ (hHeld.setRowN hwb.out _) (fun hHeld => ?_)
                  clear hK K
                  refine wpAnyH_done (by kernel_rfl) ?_ _
                  have HI3 : Hid ((w8.setRow wr.heap.size ic).heap[wr.heap.size]? = some (.cells ic 36 (0, 0))) := setRow_heap _ _ _ _ _ _ hbl.out
                  have HK3 : Hid (Kept [] wr (w8.setRow wr.heap.size ic)) := hHeld
                  have HBB : Hid (wr.heap.size ≤ wr.heap.size) := hwb.out
                  clear hHeld hbl hwb hz1 hb1 hk1 k8 hHeld8
                  generalize w8.setRow wr.heap.size ic = W3 at *
                  obtain ⟨bi, hbi⟩ : ∃ bi, bi = wr.heap.size := ⟨_, rfl⟩
                  replace HBB : Hid (wr.heap.size ≤ bi) := Nat.le_of_eq hbi.symm
                  rw [← hbi] at HI3 ⊢
                  clear hbi
                  simp only [Act.put, List.setIfInBounds_toArray]
                  have HF3 : Hid (FlT W3 s b n2 D2) := HF2.out.on HK3.out
                  have HRG : Hid (∀ W, Kept [b] W3 W → W.rangeAt bi 0 us) := fun W q => row_range (q.heap (show W3.heap[bi]? = some (.cells us.toArray 36 (0, 0)) by rw [← HUS.out]; exact HI3.out) (by have := HF2.out.st.lt.2; have := HBB.out; simp; omega))
                  have hr3 := HRG.out W3 (Kept.refl _ _)
                  have hhas := HHS.out W3 HF3.out
                  go_wp2_with (first
                    | (refine wpList_load_mid (by rfl) 36 (.tmp 15) (by rfl) bi 0 (by rfl) us _ hr3 hui rfl hsi ?_))
                  go_at_call 21
                  refine hhas.mono ?_
                  rintro e w4 ⟨rfl, k4⟩
                  have HF4 : Hid (FlT w4 s b n2 D2) := HF3.out.on k4
                  have HR4 : Hid (∀ W, Kept [b] w4 W → W.rangeAt bi 0 us) := fun W q => HRG.out W ((k4.more (by simp)).then'' q)
                  have HK4 : Hid (Kept [] W0 w4) := (HKR.out.then HK3.out).then k4
                  have hr4 := HR4.out w4 (Kept.refl _ _)
                  have hrm := HRM.out w4 HF4.out
                  clear hr3 hhas k4 HRG HF3
                  go_wp2_with (first
                    | (refine wpList_load_mid (by rfl) 36 (.tmp 15) (by rfl) bi 0 (by rfl) us _ hr4 hui rfl hsi ?_))
                  go_at_call 10
                  refine hrm.mono ?_
                  rintro e w5 ⟨rfl, hst5, k5⟩
                  have HF5 : Hid (FlT w5 s b n2 (D2.del (idKey (digL xs)))) := HF4.out.del k5 hst5
                  have hr5 := HR4.out w5 k5
                  have hhas5 := HHS2.out w5 _ HF5.out Maps.has_del_same
                  have HK5 : Hid (Kept [] W0 w5) := kept_newP HK4.out k5 HB.out.2
                  have twas : (was != was) = false := by cases was <;> rfl
                  clear hrm hr4 hst5 k5 HR4 HF4
                  go_wp2_with (first
                    | (refine wantedS (by rfl) fun K hK => wp_load_mid 36 (.tmp 15) (by rfl) bi 0 (by rfl) us _ hr5 hui rfl hsi (hK _ _ ?_)))
                  go_at_call 21
                  refine hhas5.mono ?_
                  rintro e w6 ⟨rfl, k6⟩
                  have HE : Hid (∃ D n, FlT w6 s b n D ∧ n ≤ 80 ∧ Kept [] W0 w6) := ⟨_, _, HF5.out.on k6, HN2.out, HK5.out.then k6⟩
                  clear hhas5 k6 hr5 HF5 twas
                  go_wp2
                  go_roundw
                  case rel => exact ⟨j + 1, by omega, by omega, by go_num, HE⟩
                  case measure => simp [intOf]; omega
              · have u1 : decide ((j : Int) < (G.length : Int)) = true := decide_eq_true (by omega)
                have u2 : decide ((j : Int) < 80) = true := decide_eq_true (by omega)
                have u3 : decide ((0 : Int) < (L.length : Int)) = false := decide_eq_false (by omega)
                obtain ⟨c1, d1⟩ := HC.out wr HKR.out
                go_wp2
                refine bodyPost_ret (v := .tuple #[.pointer (some ⟨s, 0, none⟩), .bool true]) (by simp [results, Tryz.results5, go_sem]) rfl ⟨s, b, n2, D2, rfl, HF2.out, HN2.out, Nat.le_trans HSW.out HB.out.1, Nat.le_trans HSW.out HB.out.2, HK0.out.then HKR.out⟩
            · have u1 : decide ((j : Int) < (G.length : Int)) = true := decide_eq_true (by omega)
              have u2 : decide ((j : Int) < 80) = false := decide_eq_false (by omega)
              obtain ⟨c1, d1⟩ := HC.out wr HKR.out
              go_wp2
              refine bodyPost_ret (v := .tuple #[.pointer (some ⟨s, 0, none⟩), .bool true]) (by simp [results, Tryz.results5, go_sem]) rfl ⟨s, b, n2, D2, rfl, HF2.out, HN2.out, Nat.le_trans HSW.out HB.out.1, Nat.le_trans HSW.out HB.out.2, HK0.out.then HKR.out⟩
          · have u1 : decide ((j : Int) < (G.length : Int)) = false := decide_eq_false (by omega)
            obtain ⟨c1, d1⟩ := HC.out wr HKR.out
            go_wp2
            refine bodyPost_ret (v := .tuple #[.pointer (some ⟨s, 0, none⟩), .bool true]) (by simp [results, Tryz.results5, go_sem]) rfl ⟨s, b, n2, D2, rfl, HF2.out, HN2.out, Nat.le_trans HSW.out HB.out.1, Nat.le_trans HSW.out HB.out.2, HK0.out.then HKR.out⟩
theorem filled_any [TabC] (ev gv : Value) (nn : Int) (L : List (List Int)) (G : List Int) (w : World) (hV : Vars w) (hT : Tabs w) (hL : LsAt w ev L) (hG : NsAt w gv G) :
    Calls Tryz.prog 5 #[.agg #[ev, gv, .int .i64 nn]] w (FilA w) :=
  (filled_typed ev gv nn L G w hV hT hL hG).mono fun _ _ ⟨s, b, n, D, h1, h2, h3⟩ => ⟨s, b, n, D, h1, h2.toFl, h3⟩
end Go.Proofs.YtddhhjgegkkjbaaGreatDoor
