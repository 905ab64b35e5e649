/-
  WALK: object.read, of a tag.
  WALKS: object.Children, object.Kind, over what object.read answers.
  WALKS: object.objectOf of a commit, of a tag; object.Parse over what object.read answers.
-/
import Derived.Test.YtnfbiemmdaenpaaDoorRead0
import Derived.Test.YtnfbiemmdaenpaaDoorReadT
namespace Go.Proofs.YtnfbiemmdaenpaaDoor
open Go.RowKit

set_option maxRecDepth 100000 in
set_option maxHeartbeats 2000000 in
theorem readTag (v : Value) (xs : List Int) (w : World) (hv : BytesAt w v xs) (ho : Octs xs) (hl : xs.length ≤ 65536) (hT : Tabs w) (y0 : Took) (h0 : Hid (y0 = takeL xs 0 0 0 1 0)) (hk : Hid (y0.n = 4)) (y1 y2 y3 y4 y5 y6 : Took) (h1 : Hid (y1 = takeL xs y0.pl y0.f 3 32 0)) (h2 : Hid (y2 = takeL xs y1.pl y1.f 0 1 0)) (h3 : Hid (y3 = takeL xs y2.pl y2.f 2 0 255)) (h4 : Hid (y4 = takeL xs y3.pl y3.f 2 0 255)) (h5 : Hid (y5 = takeL xs y4.pl y4.f 0 8 0)) (h6 : Hid (y6 = takeL xs y5.pl y5.f 2 0 4096)) (tg : TagL) (htg : Hid (tg = ⟨idOf y1.text, y2.n, y3.text, y4.text, y5.n, y6.text⟩)) (hq4 : y6.f ≤ 4) (hple : y6.pl ≤ xs.length) :
    Calls Tryd.prog 26 #[v] w fun e w' => Kept [] w w' ∧ (y6.f = 0 ∧ y6.pl = xs.length ∧ faultG tg = 0 → e = .returned (.tuple #[.iface 83 (.agg tg.row.toArray), .int .i64 0])) ∧ (¬ (y6.f = 0 ∧ y6.pl = xs.length ∧ faultG tg = 0) → e = .returned (.tuple #[.nilIface, .int .i64 37])) := by
  have hread := Read_any v xs w hv (by omega) ho
  have HTB : Hid (∀ W, Kept [] w W → Tabs W) := fun W hW => hT.kept hW
  have HU8 : Hid (∀ W r g, Rdr W r g xs 0 0 → Calls Tryd.prog 42 #[.pointer (some ⟨r, 0, none⟩)] W fun e w' => e = .returned (.int .u8 4) ∧ Rdr w' r g xs y0.pl y0.f ∧ Kept [r] W w') := fun W r g q => by
    have h := U8_any q y0 h0
    rw [hk.out] at h
    exact h
  have HGT : Hid (tg.Good) := by
    rw [htg.out]
    have b2 := take_lt xs ho y1.pl y1.f 1
    have b5 := take_lt xs ho y4.pl y4.f 8
    have c2 : 0 ≤ y2.n ∧ y2.n < 256 := by rw [h2.out]; exact b2
    have c5 : 0 ≤ y5.n ∧ y5.n < 18446744073709551616 := by rw [h5.out]; exact b5
    exact ⟨idOf_good (by rw [h1.out]; exact take_octs xs ho _ _ _ _ _) (by rw [h1.out]; exact raw32_len _ _ _), by show -9223372036854775808 ≤ y2.n; omega, by show y2.n ≤ 9223372036854775807; omega, by rw [h3.out]; exact take_text_good xs ho hl _ _ _ _ _, by rw [h4.out]; exact take_text_good xs ho hl _ _ _ _ _, c5.1, by show y5.n ≤ 18446744073709551615; omega, by rw [h6.out]; exact take_text_good xs ho hl _ _ _ _ _⟩
  have HRT : Hid (∀ W r g, Rdr W r g xs y0.pl y0.f → Calls Tryd.prog 47 #[.pointer (some ⟨r, 0, none⟩)] W fun e w' => e = .returned (.agg tg.row.toArray) ∧ Rdr w' r g xs y6.pl y6.f ∧ Kept [r] W w') := fun W r g hW => by
    have h := readTag_any hW y1 y2 y3 y4 y5 y6 h1 h2 h3 h4 h5 h6
    rw [htg.out]
    exact h
  have HFT : Hid (∀ W, Kept [] w W → Calls Tryd.prog 116 #[.agg tg.row.toArray] W fun e w' => e = .returned (.int .i64 (faultG tg)) ∧ Kept [] W w') := fun W hW => tagFault_any tg W (HTB.out W hW) HGT.out
  have HEND : Hid (∀ W r g, Rdr W r g xs y6.pl y6.f → Calls Tryd.prog 48 #[.pointer (some ⟨r, 0, none⟩)] W fun e w' => e = .returned (.int .i64 (if y6.f ≠ 0 then errL y6.f else if y6.pl < xs.length then 13 else 0)) ∧ ∃ n, w' = W.drewN n) := fun W r g q => End_any q hq4
  have hm1 := meth_tag_fault
  obtain ⟨ev, hev⟩ : ∃ ev : Int, ev = if y6.f ≠ 0 then errL y6.f else if y6.pl < xs.length then 13 else 0 := ⟨_, rfl⟩
  rw [← hev] at HEND
  have HEV : Hid (ev = 0 ↔ y6.f = 0 ∧ y6.pl = xs.length) := by
    have : ev = 0 ↔ y6.f = 0 ∧ y6.pl = xs.length := by
      rw [hev]
      by_cases hq0 : y6.f = 0
      · rw [if_neg (by omega)]
        by_cases hpl : y6.pl < xs.length
        · rw [if_pos hpl]; constructor
          · intro h; exact absurd h (by decide)
          · intro h; omega
        · rw [if_neg hpl]; constructor
          · intro _; exact ⟨hq0, by omega⟩
          · intro _; rfl
      · rw [if_pos hq0]; constructor
        · intro h; exact absurd h (errL_ne _ hq0 hq4)
        · intro h; exact absurd h.1 hq0
    exact this
  obtain ⟨fv, hfv⟩ : ∃ fv : Int, fv = faultG tg := ⟨_, rfl⟩
  rw [← hfv] at HFT ⊢
  clear hev hfv hT
  have hlx : decide (65536 < (xs.length : Int)) = false := decide_eq_false (by omega)
  obtain ⟨ao, cap, rfl, _⟩ := hv
  by_cases he0 : ev = 0
  · have HPQ := HEV.out.1 he0
    have HPQ : Hid (y6.f = 0 ∧ y6.pl = xs.length) := HPQ
    subst he0
    by_cases hf0 : fv = 0
    · have HOK : Hid (y6.f = 0 ∧ y6.pl = xs.length ∧ fv = 0) := ⟨HPQ.out.1, HPQ.out.2, hf0⟩
      subst hf0
      clear HEV HPQ
      go_enter Tryd.func26, Tryd.ntmps26
      go_wp2_with (first
        | (go_at_call 41; refine hread.mono ?_; rintro e w1 ⟨r, g, rfl, hr1, hk1, hrs, hgs⟩
           have HR1 : Hid (Rdr w1 r g xs 0 0) := hr1
           have HK1 : Hid (Kept [] w w1) := hk1
           clear hr1 hk1)
        | (go_at_call 42; refine (HU8.out _ r g HR1.out).mono ?_; rintro e w2 ⟨rfl, hr2, hk2⟩
           have HR2 : Hid (Rdr w2 r g xs y0.pl y0.f) := hr2
           have HK2 : Hid (Kept [] w w2) := kept_new HK1.out hk2 hrs
           clear hr2 hk2)
        | (go_at_call 47; refine (HRT.out _ r g HR2.out).mono ?_; rintro e w3 ⟨rfl, hr3, hk3⟩
           have HR3 : Hid (Rdr w3 r g xs y6.pl y6.f) := hr3
           have HK3 : Hid (Kept [] w w3) := kept_new HK2.out hk3 hrs
           clear hr3 hk3)
        | (go_at_call 48; refine (HEND.out _ r g HR3.out).mono ?_; rintro e w4 ⟨rfl, n4, rfl⟩
           have HK4 : Hid (Kept [] w (w3.drewN n4)) := HK3.out.drewN n4
           skip)
        | (go_at_call 116; refine (HFT.out _ HK4.out).mono ?_; rintro e w5 ⟨rfl, hk5⟩
           have HK5 : Hid (Kept [] w w5) := HK4.out.then hk5
           clear hk5))
      refine bodyPost_ret (v := .tuple #[.iface 83 (.agg tg.row.toArray), .int .i64 0]) (by simp [results, Tryd.results26, go_sem]) rfl ⟨HK5.out, fun _ => rfl, fun h => absurd HOK.out h⟩
    · have HNO : Hid (¬ (y6.f = 0 ∧ y6.pl = xs.length ∧ fv = 0)) := fun h => hf0 h.2.2
      have hne : (fv != 0) = true := bne_iff_ne.2 hf0
      clear HEV HPQ hf0
      go_enter Tryd.func26, Tryd.ntmps26
      go_wp2_with (first
        | (go_at_call 41; refine hread.mono ?_; rintro e w1 ⟨r, g, rfl, hr1, hk1, hrs, hgs⟩
           have HR1 : Hid (Rdr w1 r g xs 0 0) := hr1
           have HK1 : Hid (Kept [] w w1) := hk1
           clear hr1 hk1)
        | (go_at_call 42; refine (HU8.out _ r g HR1.out).mono ?_; rintro e w2 ⟨rfl, hr2, hk2⟩
           have HR2 : Hid (Rdr w2 r g xs y0.pl y0.f) := hr2
           have HK2 : Hid (Kept [] w w2) := kept_new HK1.out hk2 hrs
           clear hr2 hk2)
        | (go_at_call 47; refine (HRT.out _ r g HR2.out).mono ?_; rintro e w3 ⟨rfl, hr3, hk3⟩
           have HR3 : Hid (Rdr w3 r g xs y6.pl y6.f) := hr3
           have HK3 : Hid (Kept [] w w3) := kept_new HK2.out hk3 hrs
           clear hr3 hk3)
        | (go_at_call 48; refine (HEND.out _ r g HR3.out).mono ?_; rintro e w4 ⟨rfl, n4, rfl⟩
           have HK4 : Hid (Kept [] w (w3.drewN n4)) := HK3.out.drewN n4
           skip)
        | (go_at_call 116; refine (HFT.out _ HK4.out).mono ?_; rintro e w5 ⟨rfl, hk5⟩
           have HK5 : Hid (Kept [] w w5) := HK4.out.then hk5
           clear hk5))
      refine bodyPost_ret (v := .tuple #[.nilIface, .int .i64 37]) (by simp [results, Tryd.results26, go_sem]) rfl ⟨HK5.out, fun h => absurd h HNO.out, fun _ => rfl⟩
  · have HNO : Hid (¬ (y6.f = 0 ∧ y6.pl = xs.length ∧ fv = 0)) := fun h => he0 (HEV.out.2 ⟨h.1, h.2.1⟩)
    have hne : (ev != 0) = true := bne_iff_ne.2 he0
    clear HEV he0
    go_enter Tryd.func26, Tryd.ntmps26
    go_wp2_with (first
        | (go_at_call 41; refine hread.mono ?_; rintro e w1 ⟨r, g, rfl, hr1, hk1, hrs, hgs⟩
           have HR1 : Hid (Rdr w1 r g xs 0 0) := hr1
           have HK1 : Hid (Kept [] w w1) := hk1
           clear hr1 hk1)
        | (go_at_call 42; refine (HU8.out _ r g HR1.out).mono ?_; rintro e w2 ⟨rfl, hr2, hk2⟩
           have HR2 : Hid (Rdr w2 r g xs y0.pl y0.f) := hr2
           have HK2 : Hid (Kept [] w w2) := kept_new HK1.out hk2 hrs
           clear hr2 hk2)
        | (go_at_call 47; refine (HRT.out _ r g HR2.out).mono ?_; rintro e w3 ⟨rfl, hr3, hk3⟩
           have HR3 : Hid (Rdr w3 r g xs y6.pl y6.f) := hr3
           have HK3 : Hid (Kept [] w w3) := kept_new HK2.out hk3 hrs
           clear hr3 hk3)
        | (go_at_call 48; refine (HEND.out _ r g HR3.out).mono ?_; rintro e w4 ⟨rfl, n4, rfl⟩
           have HK4 : Hid (Kept [] w (w3.drewN n4)) := HK3.out.drewN n4
           skip)
        | (go_at_call 116; refine (HFT.out _ HK4.out).mono ?_; rintro e w5 ⟨rfl, hk5⟩
           have HK5 : Hid (Kept [] w w5) := HK4.out.then hk5
           clear hk5))
    refine bodyPost_ret (v := .tuple #[.nilIface, .int .i64 37]) (by simp [results, Tryd.results26, go_sem]) rfl ⟨HK4.out, fun h => absurd h HNO.out, fun _ => rfl⟩
end Go.Proofs.YtnfbiemmdaenpaaDoor

namespace Go.Proofs.YtnfbiemmdaenpaaDoor
open Go.RowKit

set_option maxRecDepth 100000 in
set_option maxHeartbeats 1000000 in
theorem childrenTree (v : Value) (w : World) (es : List EntL) (hf : ∃ ao n c, v = .slice ao n c) (hg : ∀ e, e ∈ es → e.Good) (hn : es.length ≤ 1024)
    (hrd : Calls Tryd.prog 26 #[v] w fun e w' => Kept [] w w' ∧ ∃ b, e = .returned (.tuple #[.iface 81 (.slice (some ⟨b, 0, none⟩) es.length es.length), .int .i64 0]) ∧ RowsIn w' b 74 (es.map EntL.row) ∧ w.heap.size ≤ b) :
    Calls Tryd.prog 16 #[v] w fun e w' => Kept [] w w' ∧ ∃ b, e = .returned (.tuple #[.slice (some ⟨b, 0, none⟩) es.length es.length, .int .i64 0]) ∧ RowsIn w' b 56 ((es.map linkOf).map LinkL.row) ∧ w.heap.size ≤ b := by
  have hm1 := meth_tree_children
  have HC : Hid (∀ W b, RowsIn W b 74 (es.map EntL.row) → Calls Tryd.prog 101 #[.slice (some ⟨b, 0, none⟩) es.length es.length] W fun e w' => ∃ b', e = .returned (.slice (some ⟨b', 0, none⟩) es.length es.length) ∧ RowsIn w' b' 56 ((es.map linkOf).map LinkL.row) ∧ W.heap.size ≤ b' ∧ Kept [] W w') := fun W b hb => treeChildren_any _ es W (EntsAt.of_rows hb hg hn) hg hn
  obtain ⟨ao, n, c, rfl⟩ := hf
  clear hg
  go_enter Tryd.func16, Tryd.ntmps16
  go_wp2_with (first
    | (go_at_call 26; refine hrd.mono ?_; rintro e w1 ⟨hk1, b1, rfl, hr1, hb1⟩
       have HK1 : Hid (Kept [] w w1) := hk1
       have HR1 : Hid (RowsIn w1 b1 74 (es.map EntL.row)) := hr1
       clear hr1 hk1)
    | (go_at_call 101; refine (HC.out _ _ HR1.out).mono ?_; rintro e w2 ⟨b2, rfl, hr2, hb2, hk2⟩
       have HK2 : Hid (Kept [] w w2) := HK1.out.then hk2
       have HR2 : Hid (RowsIn w2 b2 56 ((es.map linkOf).map LinkL.row)) := hr2
       have hs1 := HK1.out.size
       clear hr2 hk2))
  exact bodyPost_ret (v := .tuple #[.slice (some ⟨b2, 0, none⟩) es.length es.length, .int .i64 0]) (by simp [results, Tryd.results16, go_sem]) rfl ⟨HK2.out, b2, rfl, HR2.out, by omega⟩

set_option maxRecDepth 100000 in
set_option maxHeartbeats 1000000 in
theorem childrenTag (v : Value) (w : World) (t : TagL) (hf : ∃ ao n c, v = .slice ao n c) (hg : t.Good)
    (hrd : Calls Tryd.prog 26 #[v] w fun e w' => Kept [] w w' ∧ e = .returned (.tuple #[.iface 83 (.agg t.row.toArray), .int .i64 0])) :
    Calls Tryd.prog 16 #[v] w fun e w' => Kept [] w w' ∧ ∃ b, e = .returned (.tuple #[.slice (some ⟨b, 0, none⟩) 1 1, .int .i64 0]) ∧ RowsIn w' b 56 [(LinkL.mk t.target t.kind).row] ∧ w.heap.size ≤ b := by
  have hm1 := meth_tag_children
  have HC : Hid (∀ W, Calls Tryd.prog 115 #[.agg t.row.toArray] W fun e w' => ∃ b, e = .returned (.slice (some ⟨b, 0, none⟩) 1 1) ∧ RowsIn w' b 56 [(LinkL.mk t.target t.kind).row] ∧ W.heap.size ≤ b ∧ Kept [] W w') := fun W => tagChildren_any t W hg
  obtain ⟨ao, n, c, rfl⟩ := hf
  clear hg
  generalize t.row.toArray = tr at *
  go_enter Tryd.func16, Tryd.ntmps16
  go_wp2_with (first
    | (go_at_call 26; refine hrd.mono ?_; rintro e w1 ⟨hk1, rfl⟩
       have HK1 : Hid (Kept [] w w1) := hk1
       clear hk1)
    | (go_at_call 115; refine (HC.out _).mono ?_; rintro e w2 ⟨b2, rfl, hr2, hb2, hk2⟩
       have HK2 : Hid (Kept [] w w2) := HK1.out.then hk2
       have HR2 : Hid (RowsIn w2 b2 56 [(LinkL.mk t.target t.kind).row]) := hr2
       have hs1 := HK1.out.size
       clear hr2 hk2))
  exact bodyPost_ret (v := .tuple #[.slice (some ⟨b2, 0, none⟩) 1 1, .int .i64 0]) (by simp [results, Tryd.results16, go_sem]) rfl ⟨HK2.out, b2, rfl, HR2.out, by omega⟩

set_option maxRecDepth 100000 in
set_option maxHeartbeats 1000000 in
/-- Kind of what is read: its first byte. -/
theorem kind_ok (v : Value) (xs : List Int) (w : World) (hv : BytesAt w v xs) (ho : Octs xs) (k : Int) (hx : xs[0]? = some k) (cv : Value)
    (hrd : Calls Tryd.prog 26 #[v] w fun e w' => Kept [] w w' ∧ e = .returned (.tuple #[cv, .int .i64 0])) :
    Calls Tryd.prog 18 #[v] w fun e w' => e = .returned (.int .i64 k) ∧ Kept [] w w' := by
  have hkr := ho k (List.mem_of_getElem? hx)
  have HB : Hid (∀ W, Kept [] w W → BytesAt W v xs) := fun W hW => hv.kept hW (fun _ _ => by simp)
  obtain ⟨ao, cap, rfl, hc, hnil, hcell⟩ := hv
  have hlen : 0 < xs.length := (List.getElem?_eq_some_iff.1 hx).1
  obtain ⟨b, off, rfl, hh⟩ := hcell (by rintro rfl; simp at hx)
  have c0 := hh 0 k hx
  rw [Nat.add_zero] at c0
  have HC0 : Hid (∀ W, Kept [] w W → W.cell? ⟨b, off, none⟩ = some (.int .u8 k)) := fun W hW => hW.cell c0 (by simp)
  clear hh hcell hnil ho
  go_enter Tryd.func18, Tryd.ntmps18
  go_wp2_with (go_at_call 26; refine hrd.mono ?_; rintro e w1 ⟨hk1, rfl⟩; have HK1 : Hid (Kept [] w w1) := hk1; have c1 := HC0.out w1 hk1; clear hk1)
  go_ret
  exact ⟨rfl, HK1.out⟩
end Go.Proofs.YtnfbiemmdaenpaaDoor

namespace Go.Proofs.YtnfbiemmdaenpaaDoor
open Go.RowKit

def zeroO : ObjL := ⟨0, .slice none 0 0, [], .slice none 0 0, [], zeroC, .slice none 0 0, zeroG⟩
theorem Tryd.builtObj (parts : List (Nat × Value)) : Tryd.prog.built 33 parts = Instr.fill (fun i => (#[(0, 1), (1, 1), (2, 1), (3, 36), (39, 37)] : Array (Nat × Nat))[i]?) zeroO.row.toArray parts := by kernel_rfl
def comO (c : ComL) (pv : Value) : ObjL := { zeroO with kind := 3, com := c, pv := pv }
def tagO (t : TagL) : ObjL := { zeroO with kind := 4, tag := t }
theorem put0 (a b c x : Value) (R : List Value) : putL ([a, b, c] ++ R) 0 [x] = [x, b, c] ++ R := by simp [putL]
theorem put3 (a b c : Value) (Z G C : List Value) (h1 : Z.length = 36) (h2 : C.length = 36) : putL ([a, b, c] ++ (Z ++ G)) 3 C = [a, b, c] ++ (C ++ G) := by simp [putL, h1, h2]
theorem put39 (a b c : Value) (Z G T : List Value) (h1 : Z.length = 36) (h2 : T.length = 37) (h3 : G.length = 37) : putL ([a, b, c] ++ (Z ++ G)) 39 T = [a, b, c] ++ (Z ++ T) := by simp [putL, h1, h2, h3]
theorem built_comO (c : ComL) (pv : Value) (hl : c.tree.length = 32) : Tryd.prog.built 33 [(0, .int .i64 3), (3, .agg (c.row pv).toArray)] = some (comO c pv).row.toArray := by
  have hc := com_len' c pv hl
  rw [Tryd.builtObj, fill_step (fun i => (#[(0, 1), (1, 1), (2, 1), (3, 36), (39, 37)] : Array (Nat × Nat))[i]?) zeroO.row.toArray 0 (.int .i64 3) _ 0 1 rfl rfl (by decide)]
  have e1 : (Value.int .i64 3).cells.toList = [.int .i64 3] := rfl
  rw [e1, setL_put _ _ _ (by decide)]
  have e2 : putL zeroO.row 0 [.int .i64 3] = [.int .i64 3, .slice none 0 0, .slice none 0 0] ++ (zeroC.row (.slice none 0 0) ++ zeroG.row) := put0 _ _ _ _ _
  rw [e2, fill_step (fun i => (#[(0, 1), (1, 1), (2, 1), (3, 36), (39, 37)] : Array (Nat × Nat))[i]?) _ 3 (.agg (c.row pv).toArray) _ 3 36 rfl (by show (c.row pv).toArray.size = 36; rw [List.size_toArray, hc]) (by decide)]
  have e3 : (Value.agg (c.row pv).toArray).cells.toList = c.row pv := rfl
  rw [e3, setL_put _ _ _ (by rw [hc]; decide), put3 _ _ _ _ _ _ rfl hc, fill_nil]
  rfl
theorem built_tagO (t : TagL) (hl : t.target.length = 32) : Tryd.prog.built 33 [(0, .int .i64 4), (4, .agg t.row.toArray)] = some (tagO t).row.toArray := by
  have hc : t.row.length = 37 := by simp [TagL.row, hl]
  rw [Tryd.builtObj, fill_step (fun i => (#[(0, 1), (1, 1), (2, 1), (3, 36), (39, 37)] : Array (Nat × Nat))[i]?) zeroO.row.toArray 0 (.int .i64 4) _ 0 1 rfl rfl (by decide)]
  have e1 : (Value.int .i64 4).cells.toList = [.int .i64 4] := rfl
  rw [e1, setL_put _ _ _ (by decide)]
  have e2 : putL zeroO.row 0 [.int .i64 4] = [.int .i64 4, .slice none 0 0, .slice none 0 0] ++ (zeroC.row (.slice none 0 0) ++ zeroG.row) := put0 _ _ _ _ _
  rw [e2, fill_step (fun i => (#[(0, 1), (1, 1), (2, 1), (3, 36), (39, 37)] : Array (Nat × Nat))[i]?) _ 4 (.agg t.row.toArray) _ 39 37 rfl (by show t.row.toArray.size = 37; rw [List.size_toArray, hc]) (by decide)]
  have e3 : (Value.agg t.row.toArray).cells.toList = t.row := rfl
  rw [e3, setL_put _ _ _ (by rw [hc]; decide), put39 _ _ _ _ _ _ rfl hc rfl, fill_nil]
  rfl
theorem obj_len (o : ObjL) (hc : o.com.tree.length = 32) (ht : o.tag.target.length = 32) : o.row.toArray.size = 76 := by
  rw [List.size_toArray]
  unfold ObjL.row
  rw [List.length_append, List.length_append, com_len' _ _ hc, show o.tag.row.length = 37 by simp [TagL.row, ht]]
  rfl
end Go.Proofs.YtnfbiemmdaenpaaDoor
