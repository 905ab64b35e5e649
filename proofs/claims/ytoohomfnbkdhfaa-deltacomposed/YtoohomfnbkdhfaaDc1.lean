/-
  WALK: satchellaw7.DeltaComposed.
-/
import Derived.Test.YtoohomfnbkdhfaaDc0
import Derived.Test.YtoohomfnbkdhfaaDs1
namespace Go.Proofs.Ytoohomfnbkdhfaa
open Go.RowKit

set_option maxRecDepth 100000 in
set_option maxHeartbeats 4000000 in
theorem composed_any {w : World} {ab ao : Option Addr} {cb cap : Nat} {bs : List Int} {ps : List DSt} (hb : BytesAt w (.slice ab bs.length cb) bs) (hob : Octs bs) (hsb : bs.length ≤ 140737488351232) (hv : StepsAt w (.slice ao ps.length cap) ps) (hg : ∀ p, p ∈ ps → p.Good w) :
    Calls Try.prog 3 #[.agg #[.slice ab bs.length cb, .slice ao ps.length cap]] w fun e w' => e = .returned (.bool true) ∧ Kept [] w w' := by
  have HB : Hid (∀ W, Kept [] w W → BytesAt W (.slice ab bs.length cb) bs) := fun W k => hb.kept k (fun _ _ => by simp)
  have hcapb : bs.length ≤ cb := by obtain ⟨_, _, he, hc, _, _⟩ := hb; injection he with e1 e2 e3; omega
  obtain ⟨_, _, he, hpl, hcc⟩ := hv
  injection he with e1 e2 e3
  subst e1 e3
  have HCl : Hid (ps ≠ [] → ∃ b off, ao = some ⟨b, off, none⟩ ∧ ∀ (i : Nat) (p : DSt), ps[i]? = some p →
      w.cell? ⟨b, off + i * 3, none⟩ = some (.slice p.an p.new.length p.cn) ∧ w.cell? ⟨b, off + i * 3 + 1, none⟩ = some (.int .i64 p.a) ∧ w.cell? ⟨b, off + i * 3 + 2, none⟩ = some (.int .i64 p.n)) := hcc
  have HG : Hid (∀ p, p ∈ ps → p.Good w) := hg
  obtain ⟨W0, hW0⟩ : ∃ W0, W0 = w.alloc (.cells #[.slice ab bs.length cb, .slice ao ps.length cap] 25) := ⟨_, rfl⟩
  have k0 : Kept [] w W0 := hW0 ▸ (Kept.refl [] w).alloc _
  have bx0 : W0.heap[w.heap.size]? = some (.cells #[.slice ab bs.length cb, .slice ao ps.length cap] 25 (0, 0)) := hW0 ▸ heap_alloc_new w _
  have hlv := lives_any W0
  have HK0 : Hid (∀ W, Kept [] W0 W → Kept [] w W) := fun W k => k0.then k
  have HC : Hid (∀ W, Kept [] W0 W → ∀ o, W.cell? ⟨w.heap.size, o, none⟩ = #[Value.slice ab bs.length cb, .slice ao ps.length cap][o]?) := fun W k o => cell_of_row _ _ _ _ _ _ (k.heap bx0 (by simp))
  clear hb k0 bx0 hcc hg
  rw [hW0] at hlv
  go_enter Try.func3, Try.ntmps3
  go_wp2_with fail
  go_at_call 8
  refine hlv.mono ?_
  rintro e w1 ⟨rfl, k1⟩
  rw [← hW0] at k1
  have c1 := HC.out w1 k1
  by_cases hb1 : bs.length ≤ 65536
  · have t1 : decide (65536 < (bs.length : Int)) = false := by simp; omega
    have hnew := New_any w1 w1.heap.size (Nat.le_refl _)
    have HK1 : Hid (Kept [] W0 w1) := k1
    clear hlv k1
    go_wp2_with fail
    go_at_call 9
    refine hnew.mono ?_
    rintro e w2 ⟨rfl, hw2, k2⟩
    have P2 : CpSt w2 w1.heap.size w1.heap.size (.slice none 0 0) bs [] [w1.heap.size] := ⟨World.ownsRow_nil _ _ _ _, hw2, fun x hx => (by cases hx), k2.size⟩
    have HP2 : Hid (CpSt w2 w1.heap.size w1.heap.size (.slice none 0 0) bs [] [w1.heap.size]) := P2
    have HK2 : Hid (Kept [] W0 w2) := HK1.out.then k2
    have HBW : Hid (W0.heap.size ≤ w1.heap.size) := HK1.out.size
    clear hnew hw2 k2 P2 c1 HK1
    generalize w1.heap.size = B at *
    have hcutA : ∀ (ao : Option Addr) (cap lo : Nat), (if cap = lo then ao else Option.map (fun x => x.add lo) ao) = cutA ao cap lo := fun _ _ _ => rfl
    have hw47 : IntKind.i64.wrap ((bs.length : Int) + 1) = ((bs.length + 1 : Nat) : Int) := by rw [IntKind.wrap_i64]; omega
    go_wp2
    go_loopw [3, 5, 6, 7, 8, 9] (fun s3 s5 _ _ _ _ wr => ∃ (k : Nat) (cs : List Cd) (S : List Nat) (g3 : Option Addr) (n3 c3 : Nat), (k ≤ ps.length ∧ k ≤ 60) ∧ s5 = .int .i64 k ∧ s3 = .slice g3 n3 c3 ∧ n3 ≤ 65536 ∧ Hid (n3 = (txts bs cs).length ∧ CpSt wr B B s3 bs cs S ∧ Kept [] W0 wr ∧ (∀ c, c ∈ cs → c.ok bs) ∧ Octs (txts bs cs) ∧ (encs cs).length ≤ 20 * k + (txts bs cs).length)) (fun _ s5 _ _ _ _ _ => ps.length - (intOf s5).toNat)
    case atStart => exact ⟨0, [], [B], none, 0, 0, by omega, rfl, rfl, by omega, rfl, HP2.out, HK2.out, fun c hc => by simp at hc, fun u hu => by simp [txts] at hu, by simp [encs, txts]⟩
    case round =>
      clear HP2 HK2
      obtain ⟨k, cs, S, g3, n3, c3, hk, rfl, rfl, hn3, HS⟩ := hrel
      obtain ⟨hn, hP, hK, hok, hot, hel⟩ := HS.out
      have HN : Hid (n3 = (txts bs cs).length) := hn
      have HP : Hid (CpSt wr B B (.slice g3 n3 c3) bs cs S) := hP
      have HK : Hid (Kept [] W0 wr) := hK
      have HOK : Hid (∀ c, c ∈ cs → c.ok bs) := hok
      have HOT : Hid (Octs (txts bs cs)) := hot
      have HEL : Hid ((encs cs).length ≤ 20 * k + (txts bs cs).length) := hel
      clear HS hn hP hK hok hot hel
      have c2 := HC.out wr HK.out
      by_cases hlt : k < ps.length ∧ k < 60
      · obtain ⟨hl1, hl2⟩ := hlt
        have t2 : decide ((k : Int) < ps.length) = true := by simp; omega
        have t3 : decide ((k : Int) < 60) = true := by simp; omega
        obtain ⟨p, hp⟩ : ∃ p, ps[k]? = some p := ⟨ps[k], List.getElem?_eq_getElem hl1⟩
        obtain ⟨b, off, rfl, hcell⟩ := HCl.out (by rintro rfl; simp at hl1)
        obtain ⟨g0, g1, g2⟩ := hcell k p hp
        have hkw := HK0.out _ HK.out
        have e0 := hkw.cell g0 (by simp)
        have e1 := hkw.cell g1 (by simp)
        have e2 := hkw.cell g2 (by simp)
        have hgp := HG.out p (List.mem_of_getElem? hp)
        obtain ⟨an, cn, nw, a, n⟩ := p
        obtain ⟨hnb, hno, hns, ha0, ha1, hn0, hn1⟩ := hgp
        dsimp only at hnb hno hns ha0 ha1 hn0 hn1 e0 e1 e2
        have HNB : Hid (∀ W, Kept [] w W → BytesAt W (.slice an nw.length cn) nw) := fun W k => hnb.kept k (fun _ _ => by simp)
        clear hcell hp g0 g1 g2 hkw hnb
        obtain ⟨st, hst, hst2⟩ : ∃ st : Nat, a % ((bs.length + 1 : Nat) : Int) = st ∧ st ≤ bs.length := by
          have e1 := Int.emod_nonneg a (show ((bs.length + 1 : Nat) : Int) ≠ 0 by omega)
          have e2 := Int.emod_lt_of_pos a (show (0 : Int) < ((bs.length + 1 : Nat) : Int) by omega)
          exact ⟨(a % ((bs.length + 1 : Nat) : Int)).toNat, by omega, by omega⟩
        obtain ⟨l, hl, hl3⟩ : ∃ l : Nat, n % ((bs.length - st + 1 : Nat) : Int) = l ∧ l ≤ bs.length - st := by
          have e1 := Int.emod_nonneg n (show ((bs.length - st + 1 : Nat) : Int) ≠ 0 by omega)
          have e2 := Int.emod_lt_of_pos n (show (0 : Int) < ((bs.length - st + 1 : Nat) : Int) by omega)
          exact ⟨(n % ((bs.length - st + 1 : Nat) : Int)).toNat, by omega, by omega⟩
        have hin1 := fun W => into7_any a ((bs.length + 1 : Nat) : Int) W (by omega) (by omega) ha0 ha1
        have hin2 := fun W => into7_any n ((bs.length - st + 1 : Nat) : Int) W (by omega) (by omega) hn0 hn1
        rw [hst] at hin1
        rw [hl] at hin2
        have w1 : IntKind.i64.wrap ((bs.length : Int) - st) = ((bs.length - st : Nat) : Int) := by rw [IntKind.wrap_i64]; omega
        have w2 : IntKind.i64.wrap (((bs.length - st : Nat) : Int) + 1) = ((bs.length - st + 1 : Nat) : Int) := by rw [IntKind.wrap_i64]; omega
        have w3 : IntKind.i64.wrap ((st : Int) + l) = ((st + l : Nat) : Int) := by rw [IntKind.wrap_i64]; omega
        have i0 : (0 : Int) ≤ st := by omega
        have i1 : (st : Int) ≤ ((st + l : Nat) : Int) := by omega
        have i2 : ((st + l : Nat) : Int) ≤ cb := by omega
        have ka : Kept [] wr (wr.alloc (.cells #[.slice an nw.length cn, .int .i64 a, .int .i64 n] 30)) := (Kept.refl _ _).alloc _
        have c3' := HC.out _ (HK.out.then ka)
        clear hst hl
        go_wp2_with fail
        go_at_call 10
        refine (hin1 _).mono ?_
        rintro e w5 ⟨rfl, hw5⟩
        subst w5
        go_wp2_with fail
        go_at_call 10
        refine (hin2 _).mono ?_
        rintro e w5 ⟨rfl, hw5⟩
        subst w5
        have HP5 : Hid (CpSt (wr.alloc (.cells #[.slice an nw.length cn, .int .i64 a, .int .i64 n] 30)) B B (.slice g3 n3 c3) bs cs S) := HP.out.on ka
        have HK5 : Hid (Kept [] W0 (wr.alloc (.cells #[.slice an nw.length cn, .int .i64 a, .int .i64 n] 30))) := HK.out.then ka
        obtain ⟨q1, q2, q3⟩ := own_facts (heap_alloc_new wr (.cells #[.slice an nw.length cn, .int .i64 a, .int .i64 n] 30))
        have HQ : Hid (∀ W, Kept [] (wr.alloc (.cells #[.slice an nw.length cn, .int .i64 a, .int .i64 n] 30)) W → True) := fun _ _ => trivial
        clear hin1 hin2 HP HK ka e0 e1 e2 c2 HQ
        have hsb5 : wr.heap.size = wr.heap.size := rfl
        generalize hW5 : wr.alloc (.cells #[.slice an nw.length cn, .int .i64 a, .int .i64 n] 30) = W5 at *
        generalize wr.heap.size = sb at *
        clear hW5 hsb5
        by_cases hnl : 0 < nw.length
        · have d1 : decide (0 < (nw.length : Int)) = true := decide_eq_true (by omega)
          have d2 : ((nw.length : Int) == 0) = false := beq_eq_false_iff_ne.2 (by omega)
          by_cases hsz : n3 + nw.length ≤ 65536
          · have w5 : IntKind.i64.wrap ((n3 : Int) + nw.length) = n3 + nw.length := by rw [IntKind.wrap_i64]; omega
            have d3 : decide (65536 < (n3 : Int) + nw.length) = false := by simp; omega
            have w6 : IntKind.i64.wrap (2 * (nw.length : Int)) = 2 * nw.length := by rw [IntKind.wrap_i64]; omega
            have w7 : IntKind.u64.wrap (2 * (nw.length : Int)) = 2 * nw.length := by rw [IntKind.wrap_u64]; omega
            have hz := HEL.out
            have hva := WVar_any HP5.out.wr HP5.out.le (2 * (nw.length : Int)) (by omega) (by omega) (by have := HN.out; omega)
            go_wp2_with fail
            go_at_call 11
            refine hva.mono ?_
            rintro e w6 ⟨rfl, hwv⟩
            obtain ⟨S6, hw6, k6, hs6⟩ := hwv
            have hSB := fun x hx => (HP5.out.wr.lt x hx).1
            have K6 : Kept [] W0 w6 := HK5.out.trans k6 (fun x hx => Or.inr (Nat.le_trans HBW.out (hSB x hx)))
            have o6 : OwnB w6 B (.slice g3 n3 c3) (txts bs cs) := HP5.out.own.kept k6 HP5.out.ap
            have ap6 : ∀ x, (Value.slice g3 n3 c3).ownBlock = some x → x ∉ S6 := fun x hx hS => by
              rcases hs6 x hS with h | h
              · exact HP5.out.ap x hx h
              · have := (World.ownsRow.lt HP5.out.own x hx).2; omega
            have le6 : B ≤ w6.heap.size := Nat.le_trans HP5.out.le k6.size

            have hvl : (varB (2 * (nw.length : Int))).length ≤ 10 := varB_len _ (by omega) (by omega)
            have hvb := WRaw_any hw6 le6 (.slice an nw.length cn) nw (HNB.out _ (HK0.out _ K6)) hno (by rw [List.length_append]; have := HN.out; omega)
            have HK6 : Hid (Kept S W5 w6) := k6
            have HS6 : Hid (∀ x, x ∈ S6 → x ∈ S ∨ W5.heap.size ≤ x) := hs6
            have HO6 : Hid (OwnB w6 B (.slice g3 n3 c3) (txts bs cs)) := o6
            have HAP6 : Hid (∀ x, (Value.slice g3 n3 c3).ownBlock = some x → x ∉ S6) := ap6
            have HKW6 : Hid (Kept [] W0 w6) := K6
            have HSB6 : Hid (∀ x, x ∈ S6 → B ≤ x) := fun x hx => (hw6.lt x hx).1
            have HLE6 : Hid (B ≤ w6.heap.size) := le6
            clear hva hw6 k6 hs6 o6 ap6 K6 hSB q1 q2 q3
            go_wp2_with fail
            go_at_call 12
            refine hvb.mono ?_
            rintro e w7 ⟨rfl, hwr⟩
            have HWR : Hid (Wrote W5 w7 B B (encs cs ++ (varB (2 * (nw.length : Int)) ++ nw)) S) := by
              have h := Wrote.trans HK6.out HS6.out hwr
              rw [List.append_assoc] at h
              exact h
            obtain ⟨S7, hw7, k7, hs7⟩ := hwr
            have HO7 : Hid (OwnB w7 B (.slice g3 n3 c3) (txts bs cs)) := HO6.out.kept k7 HAP6.out
            have HK7 : Hid (Kept [] W0 w7) := HKW6.out.trans k7 (fun x hx => Or.inr (Nat.le_trans HBW.out (HSB6.out x hx)))
            have HLE7 : Hid (B ≤ w7.heap.size) := Nat.le_trans HLE6.out k7.size
            have HX7 : Hid (BytesAt w7 (.slice an nw.length cn) nw) := HNB.out _ (HK0.out _ HK7.out)
            obtain ⟨us, hus⟩ : ∃ us, us = txts bs cs ++ nw := ⟨_, rfl⟩
            have HUS : Hid (txts bs cs ++ nw = us) := hus.symm
            clear hus
            have hll : (txts bs cs).length + (nw).length ≤ 140737488355328 := by have := HN.out; omega
            clear hvb hw7 k7 hs7 HK6 HS6 HO6 HAP6 HKW6 HSB6 HLE6
            go_wp2_with (at_builtin; refine wpList_append_bytes (by rfl) (.tmp 106) (.tmp 107) (by rfl) (by rfl) HO7.out (by rfl) HX7.out hll HLE7.out ?_; intro v8 w8 ha8
                         have HST : Hid ((∃ S', CpSt w8 B B v8 bs (cs ++ [.new nw]) S') ∧ (∀ w : World, w.heap.size ≤ B → Kept [] w W5 → Kept [] w w8)) := HP5.out.step (c := .new nw) HWR.out ha8
                         have ho8 : OwnB w8 B v8 us := (by have e := ha8.own; rw [HUS.out] at e; exact e)
                         obtain ⟨g8, c8, rfl⟩ := own_shape ho8
                         clear ha8 ho8)
            obtain ⟨⟨S8, hst8⟩, hk8⟩ := HST.out
            have HK8 := hk8 W0 HBW.out HK5.out
            go_roundw
            case rel =>
              have e8 : txts bs (cs ++ [.new nw]) = txts bs cs ++ nw := txts_snoc bs cs (.new nw)
              have e9 : encs (cs ++ [.new nw]) = encs cs ++ (varB (2 * (nw.length : Int)) ++ nw) := encs_snoc cs (.new nw)
              have hlx : us.length = n3 + nw.length := by rw [← HUS.out, List.length_append, ← HN.out]
              refine ⟨k + 1, cs ++ [.new nw], S8, _, _, _, by omega, by go_num, rfl, ?_, ?_, hst8, HK8, fun c hc => ?_, ?_, ?_⟩
              · omega
              · rw [e8, HUS.out]
              · rcases List.mem_append.1 hc with h | h
                · exact HOK.out c h
                · rw [List.mem_singleton.1 h]; exact hnl
              · rw [e8]
                intro u hu
                rcases List.mem_append.1 hu with h | h
                · exact HOT.out u h
                · exact hno u h
              · rw [e8, e9, List.length_append, List.length_append]
                have := HEL.out
                rw [List.length_append]; omega
            case measure => simp [intOf]; omega
          · have w5 : IntKind.i64.wrap ((n3 : Int) + nw.length) = n3 + nw.length := by rw [IntKind.wrap_i64]; omega
            have d3 : decide (65536 < (n3 : Int) + nw.length) = true := by simp; omega
            go_wp2
            go_roundw
            case rel => exact ⟨k + 1, cs, S, _, _, _, by omega, by go_num, rfl, hn3, HN.out, HP5.out, HK5.out, HOK.out, HOT.out, by have := HEL.out; omega⟩
            case measure => simp [intOf]; omega
        · have d1 : decide (0 < (nw.length : Int)) = false := decide_eq_false (by omega)
          by_cases hl0 : 0 < l
          · have d2 : ((l : Int) == 0) = false := beq_eq_false_iff_ne.2 (by omega)
            by_cases hsz : n3 + l ≤ 65536
            · have w5 : IntKind.i64.wrap ((n3 : Int) + l) = n3 + l := by rw [IntKind.wrap_i64]; omega
              have d3 : decide (65536 < (n3 : Int) + l) = false := by simp; omega
              have w6 : IntKind.i64.wrap (2 * (l : Int)) = 2 * l := by rw [IntKind.wrap_i64]; omega
              have w7 : IntKind.i64.wrap (2 * (l : Int) + 1) = 2 * l + 1 := by rw [IntKind.wrap_i64]; omega
              have w8 : IntKind.u64.wrap (2 * (l : Int) + 1) = 2 * l + 1 := by rw [IntKind.wrap_u64]; omega
              have w9 : IntKind.u64.wrap (st : Int) = st := by rw [IntKind.wrap_u64]; omega
              have hz := HEL.out
              have hva := WVar_any HP5.out.wr HP5.out.le (2 * (l : Int) + 1) (by omega) (by omega) (by have := HN.out; omega)
              go_wp2_with fail
              go_at_call 11
              refine hva.mono ?_
              rintro e w6 ⟨rfl, hwv⟩
              obtain ⟨S6, hw6, k6, hs6⟩ := hwv
              have hSB := fun x hx => (HP5.out.wr.lt x hx).1
              have K6 : Kept [] W0 w6 := HK5.out.trans k6 (fun x hx => Or.inr (Nat.le_trans HBW.out (hSB x hx)))
              have o6 : OwnB w6 B (.slice g3 n3 c3) (txts bs cs) := HP5.out.own.kept k6 HP5.out.ap
              have ap6 : ∀ x, (Value.slice g3 n3 c3).ownBlock = some x → x ∉ S6 := fun x hx hS => by
                rcases hs6 x hS with h | h
                · exact HP5.out.ap x hx h
                · have := (World.ownsRow.lt HP5.out.own x hx).2; omega
              have le6 : B ≤ w6.heap.size := Nat.le_trans HP5.out.le k6.size

              have hvl : (varB (2 * (l : Int) + 1)).length ≤ 10 := varB_len _ (by omega) (by omega)
              have hvl2 : (varB (st : Int)).length ≤ 10 := varB_len _ (by omega) (by omega)
              have hvb := WVar_any hw6 le6 (st : Int) (by omega) (by omega) (by rw [List.length_append]; have := HN.out; omega)
              have HK6 : Hid (Kept S W5 w6) := k6
              have HS6 : Hid (∀ x, x ∈ S6 → x ∈ S ∨ W5.heap.size ≤ x) := hs6
              have HO6 : Hid (OwnB w6 B (.slice g3 n3 c3) (txts bs cs)) := o6
              have HAP6 : Hid (∀ x, (Value.slice g3 n3 c3).ownBlock = some x → x ∉ S6) := ap6
              have HKW6 : Hid (Kept [] W0 w6) := K6
              have HSB6 : Hid (∀ x, x ∈ S6 → B ≤ x) := fun x hx => (hw6.lt x hx).1
              have HLE6 : Hid (B ≤ w6.heap.size) := le6
              clear hva hw6 k6 hs6 o6 ap6 K6 hSB q1 q2 q3
              go_wp2_with fail
              go_at_call 11
              refine hvb.mono ?_
              rintro e w7 ⟨rfl, hwr⟩
              have HWR : Hid (Wrote W5 w7 B B (encs cs ++ (varB (2 * (l : Int) + 1) ++ varB (st : Int))) S) := by
                have h := Wrote.trans HK6.out HS6.out hwr
                rw [List.append_assoc] at h
                exact h
              obtain ⟨S7, hw7, k7, hs7⟩ := hwr
              have HO7 : Hid (OwnB w7 B (.slice g3 n3 c3) (txts bs cs)) := HO6.out.kept k7 HAP6.out
              have HK7 : Hid (Kept [] W0 w7) := HKW6.out.trans k7 (fun x hx => Or.inr (Nat.le_trans HBW.out (HSB6.out x hx)))
              have HLE7 : Hid (B ≤ w7.heap.size) := Nat.le_trans HLE6.out k7.size
              have HX7 : Hid (BytesAt w7 (.slice (cutA ab cb st) l (cb - st)) ((bs.drop st).take l)) := (bytes_cut (HB.out _ (HK0.out _ HK7.out)) st l (by omega)).1
              obtain ⟨us, hus⟩ : ∃ us, us = txts bs cs ++ ((bs.drop st).take l) := ⟨_, rfl⟩
              have HUS : Hid (txts bs cs ++ ((bs.drop st).take l) = us) := hus.symm
              clear hus
              have hll : (txts bs cs).length + (((bs.drop st).take l)).length ≤ 140737488355328 := by have := HN.out; rw [List.length_take]; omega
              clear hvb hw7 k7 hs7 HK6 HS6 HO6 HAP6 HKW6 HSB6 HLE6
              go_wp2_with (at_builtin; refine wpList_append_bytes (by rfl) (.tmp 106) (.tmp 107) (by rfl) (by rfl) HO7.out (by rfl) HX7.out hll HLE7.out ?_; intro v8 w8 ha8
                           have HST : Hid ((∃ S', CpSt w8 B B v8 bs (cs ++ [.cp st l]) S') ∧ (∀ w : World, w.heap.size ≤ B → Kept [] w W5 → Kept [] w w8)) := HP5.out.step (c := .cp st l) HWR.out ha8
                           have ho8 : OwnB w8 B v8 us := (by have e := ha8.own; rw [HUS.out] at e; exact e)
                           obtain ⟨g8, c8, rfl⟩ := own_shape ho8
                           clear ha8 ho8)
              obtain ⟨⟨S8, hst8⟩, hk8⟩ := HST.out
              have HK8 := hk8 W0 HBW.out HK5.out
              go_roundw
              case rel =>
                have e8 : txts bs (cs ++ [.cp st l]) = txts bs cs ++ ((bs.drop st).take l) := txts_snoc bs cs (.cp st l)
                have e9 : encs (cs ++ [.cp st l]) = encs cs ++ (varB (2 * (l : Int) + 1) ++ varB (st : Int)) := encs_snoc cs (.cp st l)
                have hlx : us.length = n3 + l := by rw [← HUS.out, List.length_append, ← HN.out]; rw [List.length_take, List.length_drop]; omega
                refine ⟨k + 1, cs ++ [.cp st l], S8, _, _, _, by omega, by go_num, rfl, ?_, ?_, hst8, HK8, fun c hc => ?_, ?_, ?_⟩
                · omega
                · rw [e8, HUS.out]
                · rcases List.mem_append.1 hc with h | h
                  · exact HOK.out c h
                  · rw [List.mem_singleton.1 h]; exact ⟨hl0, by omega⟩
                · rw [e8]
                  intro u hu
                  rcases List.mem_append.1 hu with h | h
                  · exact HOT.out u h
                  · exact hob u (List.mem_of_mem_drop (List.mem_of_mem_take h))
                · rw [e8, e9, List.length_append, List.length_append]
                  have := HEL.out
                  rw [List.length_append, List.length_take, List.length_drop]; omega
              case measure => simp [intOf]; omega
            · have w5 : IntKind.i64.wrap ((n3 : Int) + l) = n3 + l := by rw [IntKind.wrap_i64]; omega
              have d3 : decide (65536 < (n3 : Int) + l) = true := by simp; omega
              go_wp2
              go_roundw
              case rel => exact ⟨k + 1, cs, S, _, _, _, by omega, by go_num, rfl, hn3, HN.out, HP5.out, HK5.out, HOK.out, HOT.out, by have := HEL.out; omega⟩
              case measure => simp [intOf]; omega
          · obtain rfl : l = 0 := by omega
            go_wp2
            go_roundw
            case rel => exact ⟨k + 1, cs, S, _, _, _, by omega, by go_num, rfl, hn3, HN.out, HP5.out, HK5.out, HOK.out, HOT.out, by have := HEL.out; omega⟩
            case measure => simp [intOf]; omega
      · have hexit : (k < ps.length ∧ decide ((k : Int) < ps.length) = true ∧ ¬ k < 60 ∧ decide ((k : Int) < 60) = false) ∨ (¬ k < ps.length ∧ decide ((k : Int) < ps.length) = false) := by
          by_cases hl1 : k < ps.length
          · exact Or.inl ⟨hl1, by simp; omega, by omega, by simp; omega⟩
          · exact Or.inr ⟨hl1, by simp; omega⟩
        obtain ⟨ts, hts⟩ : ∃ ts, txts bs cs = ts := ⟨_, rfl⟩
        have hnt : n3 = ts.length := by rw [← hts]; exact HN.out
        subst hnt
        have hot : Octs ts := by rw [← hts]; exact HOT.out
        have hdo : Octs (delL bs ts cs) := octs_del bs ts cs hb1 hn3 hot HOK.out hts
        have hdl : (delL bs ts cs).length ≤ 3000000 := by
          have h1 : (varB (bs.length : Int)).length ≤ 10 := varB_len _ (by omega) (by omega)
          have h2 : (varB (ts.length : Int)).length ≤ 10 := varB_len _ (by omega) (by omega)
          have h3 := HEL.out
          rw [hts] at h3
          unfold delL
          rw [List.length_append, List.length_append]
          omega
        have hap : Hid ((0, ts) = applyL bs (delL bs ts cs)) := by
          have h := apply_del bs ts cs [] hb1 hn3 HOK.out hts
          rw [List.append_nil, if_pos rfl] at h
          exact h.symm
        have hdE : [] ++ varB (bs.length : Int) ++ varB (ts.length : Int) ++ encs cs = delL bs ts cs := by unfold delL; rw [List.nil_append]
        have HW : Hid (∀ W, Kept [] wr W → BytesAt W (.slice g3 ts.length c3) ts) := fun W k => by
          have h := (HP.out.on k).own.bytes
          rw [hts] at h
          exact h
        have HBO : Hid (∀ W, Kept [] wr W → WAt W B B (encs cs) S) := fun W k => (HP.out.on k).wr
        have HCr : Hid (∀ W, Kept [] wr W → ∀ o, W.cell? ⟨w.heap.size, o, none⟩ = #[Value.slice ab bs.length cb, .slice ao ps.length cap][o]?) := fun W k => HC.out W (HK.out.then k)
        have HBr : Hid (∀ W, Kept [] wr W → BytesAt W (.slice ab bs.length cb) bs) := fun W k => HB.out W (HK0.out _ (HK.out.then k))
        have HEN : Hid (∀ W, Kept [] wr W → Kept [] w W) := fun W k => HK0.out _ (HK.out.then k)
        have w8 : IntKind.u64.wrap (bs.length : Int) = bs.length := by rw [IntKind.wrap_u64]; omega
        have w9 : IntKind.u64.wrap (ts.length : Int) = ts.length := by rw [IntKind.wrap_u64]; omega
        have hel3 : (encs cs).length ≤ 3000000 := by have := hdl; unfold delL at this; rw [List.length_append] at this; omega
        clear HN HP HK HOK HOT HEL HC HK0 HB HCl HG hts hw47 hcutA
        generalize hdd : delL bs ts cs = ds at *
        clear hdd
        have hnew := New_any wr wr.heap.size (Nat.le_refl _)
        rcases hexit with ⟨hl1, t2, hl2, t3⟩ | ⟨hl1, t2⟩ <;> (
        go_wp2_with fail
        go_at_call 9
        refine hnew.mono ?_
        rintro e w5 ⟨rfl, hw5, k5⟩
        have hv1 := WVar_any hw5 k5.size (bs.length : Int) (by omega) (by omega) (by simp)
        have c5 := HCr.out _ k5
        have HK5 : Hid (Kept [] wr w5) := k5
        have HW5 : Hid (WAt w5 wr.heap.size wr.heap.size [] [wr.heap.size]) := hw5
        clear hnew hw5 k5 c2
        go_wp2_with fail
        go_at_call 11
        refine hv1.mono ?_
        rintro e w6 ⟨rfl, hwv⟩
        obtain ⟨S6, hw6, k6, hs6⟩ := hwv
        have k6' : Kept [] wr w6 := HK5.out.trans k6 (fun x hx => Or.inr (HW5.out.lt x hx).1)
        have hl6 : (varB (bs.length : Int)).length ≤ 10 := varB_len _ (by omega) (by omega)
        have hl7 : (varB (ts.length : Int)).length ≤ 10 := varB_len _ (by omega) (by omega)
        have hv2 := WVar_any hw6 k6'.size (ts.length : Int) (by omega) (by omega) (by simp; omega)
        have HK6 : Hid (Kept [] wr w6) := k6'
        have HW6 : Hid (WAt w6 wr.heap.size wr.heap.size ([] ++ varB (bs.length : Int)) S6) := hw6
        clear hv1 HW5 HK5 hw6 k6 hs6 k6' c5
        go_wp2_with fail
        go_at_call 11
        refine hv2.mono ?_
        rintro e w7 ⟨rfl, hwv⟩
        obtain ⟨S7, hw7, k7, hs7⟩ := hwv
        have k7' : Kept [] wr w7 := HK6.out.trans k7 (fun x hx => Or.inr (HW6.out.lt x hx).1)
        have ho7 := WOut_any (HBO.out _ k7') (by omega)
        have HK7 : Hid (Kept [] wr w7) := k7'
        have HW7 : Hid (WAt w7 wr.heap.size wr.heap.size ([] ++ varB (bs.length : Int) ++ varB (ts.length : Int)) S7) := hw7
        clear hv2 HW6 HK6 hw7 k7 hs7 k7'
        go_wp2_with fail
        go_at_call 13
        refine ho7.mono ?_
        rintro e w8 ⟨rfl, hq8, k8⟩
        have k8' : Kept [] wr w8 := HK7.out.then k8
        have hv3 := WRaw_any (HW7.out.kept k8 (fun _ _ => by simp)) k8'.size _ (encs cs) (raw_row hq8) (by obtain ⟨_, _, _, _, _, _, h, _⟩ := HBO.out _ k8'; exact h) (by simp; omega)
        have HK8 : Hid (Kept [] wr w8) := k8'
        have HW8 : Hid (WAt w8 wr.heap.size wr.heap.size ([] ++ varB (bs.length : Int) ++ varB (ts.length : Int)) S7) := HW7.out.kept k8 (fun _ _ => by simp)
        clear ho7 HK7 HW7 hq8 k8 k8'
        go_wp2_with fail
        go_at_call 12
        refine hv3.mono ?_
        rintro e w9 ⟨rfl, hwv⟩
        obtain ⟨S9, hw9, k9, hs9⟩ := hwv
        rw [hdE] at hw9
        have k9' : Kept [] wr w9 := HK8.out.trans k9 (fun x hx => Or.inr (HW8.out.lt x hx).1)
        have HK9 : Hid (Kept [] wr w9) := k9'
        have hout := fun n => WOut_any (hw9.kept ((Kept.refl [] w9).drewN n) (fun _ _ => by simp)) (by omega)
        have c9 := HCr.out _ k9'
        clear hv3 HK8 HW8 hw9 k9 hs9 k9'
        go_wp2_with fail
        go_cut [11, 12] from 125 to 133 (fun s11 s12 wx => ∃ a5 c5, s11 = .slice a5 ts.length c5 ∧ s12 = .int .i64 0 ∧ Hid (BytesAt wx s11 ts ∧ Kept [] wr wx))
        case first =>
          go_region_with (first
            | (go_at_call 13; refine (hout _).mono ?_; rintro e w10 ⟨rfl, hq10, k10⟩; have HK10 : Hid (Kept [] wr w10) := HK9.out.then k10.undrewN; have happ := Apply_any (HBr.out _ HK10.out) (raw_row hq10) hdo (by omega) (0, ts) hap; have c10 := HCr.out _ HK10.out; clear hq10 k10)
            | (go_at_call 14; refine happ.mono ?_; rintro e w11 ⟨v1, rfl, s1, s2, s3⟩; have HV11 : Hid (BytesAt w11 v1 ts ∧ Kept [] wr w11) := ⟨s1, HK10.out.then s2⟩; obtain ⟨a5, c5, rfl, _⟩ := s1; clear s2 s3 happ))
          all_goals (go_wp2_with fail; go_meet; exact ⟨_, _, rfl, rfl, HV11.out⟩)
        case rest =>
        obtain ⟨a5, c5, rfl, rfl, HV⟩ := hcut
        obtain ⟨hv11, k11⟩ := HV.out
        have hnum := num7_any 0 wc
        have heq := Eq_same hv11 (HW.out _ k11) (by omega)
        clear hout c9 HK9 hv11 HV
        go_wp2_with fail
        go_at_call 15
        refine hnum.mono ?_
        rintro e w12 ⟨rfl, hw12⟩
        subst w12
        go_wp2_with fail
        go_at_call 16
        refine heq.mono ?_
        rintro e w13 ⟨rfl, n13, rfl⟩
        have k13 : Kept [] wr (wc.drewN n13) := k11.drewN n13
        have HK13 : Hid (Kept [] wr (wc.drewN n13)) := k13
        have hmk := Make_any (HBr.out _ k13) hob (by omega) (HW.out _ k13) hot (by omega)
        have c13 := HCr.out _ k13
        clear hnum heq k11 k13
        generalize wc.drewN n13 = w13 at *
        go_wp2_with fail
        go_at_call 17
        refine hmk.mono ?_
        rintro e w14 ⟨k14, _, hok⟩
        obtain ⟨q, cs', rfl, hq, hqn, hcs, htx, hbound⟩ := hok hb1 hn3
        have hap2 : Hid ((0, ts) = applyL bs (delL bs ts cs')) := by
          have h := apply_del bs ts cs' [] hb1 hn3 hcs htx
          rw [List.append_nil, if_pos rfl] at h
          exact h.symm
        have hod2 := octs_del bs ts cs' hb1 hn3 hot hcs htx
        have hdl2 : (delL bs ts cs').length ≤ 200000 := by
          obtain ⟨p, hp⟩ := lcp_ex bs ts
          obtain ⟨s, hs⟩ := lcs_ex (bs.drop p) (ts.drop p)
          have := hbound p s hp hs
          omega
        have k14' : Kept [] wr w14 := HK13.out.then k14
        have happ := Apply_any (HBr.out _ k14') (raw_row hq) hod2 (by omega) (0, ts) hap2
        have HK14 : Hid (Kept [] wr w14) := k14'
        have c14 := HCr.out _ k14'
        clear hmk k14 hok hq hqn hcs htx hbound k14' c13
        generalize delL bs ts cs' = d2 at *
        go_wp2_with fail
        go_at_call 14
        refine happ.mono ?_
        rintro e w15 ⟨v1, rfl, s1, s2, s3⟩
        have k15 : Kept [] wr w15 := HK14.out.then s2
        have hnum := num7_any 0 w15
        have heq := Eq_same s1 (HW.out _ k15) (by dsimp only; omega)
        have HE15 : Hid (Kept [] w w15) := HEN.out _ k15
        obtain ⟨a6, c6, rfl, _⟩ := s1
        clear happ s2 s3 k15 c14
        go_wp2_with fail
        go_at_call 15
        refine hnum.mono ?_
        rintro e w16 ⟨rfl, hw16⟩
        subst w16
        go_wp2_with fail
        go_at_call 15
        refine hnum.mono ?_
        rintro e w16 ⟨rfl, hw16⟩
        subst w16
        go_wp2_with fail
        go_at_call 16
        refine heq.mono ?_
        rintro e w16 ⟨rfl, n16, rfl⟩
        clear hnum heq
        go_wp2
        go_ret
        exact ⟨rfl, HE15.out.drewN n16⟩)
  · have hlv2 := lives_any w1
    have K1 := HK0.out _ k1
    clear hlv
    have t1 : decide (65536 < (bs.length : Int)) = true := by simp; omega
    go_wp2_with fail
    go_at_call 8
    refine hlv2.mono ?_
    rintro e w2 ⟨rfl, k2⟩
    have HF : Hid (Kept [] w w2) := K1.then k2
    clear hlv2 k2
    go_wp2
    go_ret
    exact ⟨rfl, HF.out⟩
end Go.Proofs.Ytoohomfnbkdhfaa
