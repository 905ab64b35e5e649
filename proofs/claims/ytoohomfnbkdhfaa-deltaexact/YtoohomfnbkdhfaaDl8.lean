/-
  WALK: the document's own: satchelref7.Apply.
-/
import Derived.Test.YtoohomfnbkdhfaaDl7
namespace Go.Proofs.Ytoohomfnbkdhfaa
open Go.RowKit

theorem PcAt.form {w : World} {bs : List Int} {B : Nat} {v : Value} {p : Pc} (h : PcAt w bs B v p) : ∃ st n : Nat, p.long = n ∧ p.text = p.ts ++ (bs.drop st).take n ∧ (0 < n → p.frm = st ∧ st + n ≤ bs.length) := by
  rcases h.kind with ⟨h1, h2, h3⟩ | ⟨h1, st, n, h2, h3, h4, h5⟩
  · exact ⟨0, 0, h2, by rw [h3]; simp, fun h => absurd h (by omega)⟩
  · exact ⟨st, n, h3, by rw [h1, h5]; rfl, fun _ => ⟨h2, h4⟩⟩
theorem rowsP_at : ∀ (ps : List Pc) (k : Nat) (p : Pc), ps[k]? = some p → (rowsP ps)[k * 3]? = some (.slice p.an p.nn p.cn) ∧ (rowsP ps)[k * 3 + 1]? = some (.int .i64 p.frm) ∧ (rowsP ps)[k * 3 + 2]? = some (.int .i64 p.long)
  | [], k, p, h => by simp at h
  | q :: ps, 0, p, h => by
    simp at h
    subst h
    exact ⟨rfl, rfl, rfl⟩
  | q :: ps, k + 1, p, h => by
    have ih := rowsP_at ps k p (by simpa using h)
    have e : rowsP (q :: ps) = q.row ++ rowsP ps := rfl
    have hl : q.row.length = 3 := rfl
    rw [e]
    refine ⟨?_, ?_, ?_⟩
    · rw [List.getElem?_append_right (by omega), hl, show (k + 1) * 3 - 3 = k * 3 by omega]; exact ih.1
    · rw [List.getElem?_append_right (by omega), hl, show (k + 1) * 3 + 1 - 3 = k * 3 + 1 by omega]; exact ih.2.1
    · rw [List.getElem?_append_right (by omega), hl, show (k + 1) * 3 + 2 - 3 = k * 3 + 2 by omega]; exact ih.2.2
theorem textP_take (ps : List Pc) (k : Nat) (p : Pc) (h : ps[k]? = some p) : textP (ps.take (k + 1)) = textP (ps.take k) ++ p.text := by
  obtain ⟨hk, rfl⟩ := List.getElem?_eq_some_iff.1 h
  rw [List.take_succ_eq_append_getElem hk, textP_snoc]
theorem textP_le (ps : List Pc) (k : Nat) : (textP (ps.take k)).length ≤ (textP ps).length := by
  have e : ps = ps.take k ++ ps.drop k := (List.take_append_drop k ps).symm
  have h2 : textP ps = textP (ps.take k) ++ textP (ps.drop k) := by
    conv => lhs; rw [e]
    unfold textP
    rw [List.flatMap_append]
  rw [h2, List.length_append]
  omega

theorem runL_nil (bs ds : List Int) : ∀ (fuel pl room : Nat) (acc : List Int), (runL bs ds fuel pl room acc).1 ≠ 0 → (runL bs ds fuel pl room acc).2 = []
  | 0, pl, room, acc, h => by
    unfold runL at h ⊢
    split
    · rfl
    · rename_i hc
      rw [if_neg hc] at h
      exact absurd rfl h
  | fuel + 1, pl, room, acc, h => by
    unfold runL at h ⊢
    by_cases h0 : room = 0
    · rw [if_pos h0] at h ⊢
      split
      · rfl
      · rename_i hc
        rw [if_neg hc] at h
        exact absurd rfl h
    · rw [if_neg h0] at h ⊢
      by_cases h1 : (cmdL bs ds pl room).err ≠ 0
      · rw [if_pos h1]
      · rw [if_neg h1] at h ⊢
        exact runL_nil bs ds fuel _ _ _ h
theorem applyL_nil (bs ds : List Int) (h : (applyL bs ds).1 ≠ 0) : (applyL bs ds).2 = [] := by
  unfold applyL applyOf at h ⊢
  split
  · rfl
  · rename_i hc
    rw [if_neg hc] at h
    exact runL_nil bs ds _ _ _ _ h

set_option maxRecDepth 100000 in
set_option maxHeartbeats 4000000 in
theorem RApply_any {w : World} {ao ad : Option Addr} {cap cd : Nat} {bs ds : List Int} (hb : BytesAt w (.slice ao bs.length cap) bs) (hob : Octs bs) (hsb : bs.length ≤ 140737488355328) (hd : BytesAt w (.slice ad ds.length cd) ds) (hod : Octs ds) (hsd : ds.length ≤ 140737488355328)
    (R : Int × List Int) (hR : Hid (R = applyL bs ds)) :
    Calls Try.prog 20 #[.slice ao bs.length cap, .slice ad ds.length cd] w fun e w' => ∃ v, e = .returned (.tuple #[v, .int .i64 R.1]) ∧ AppTo w w' R v := by
  have hps := Pieces_any hd hod hsd hsb R hR
  have HB : Hid (∀ W, Kept [] w W → BytesAt W (.slice ao bs.length cap) bs) := fun W k => hb.kept k (fun _ _ => by simp)
  have HRn : Hid (R.1 ≠ 0 → R.2 = []) := by
    intro h
    rw [hR.out] at h ⊢
    exact applyL_nil bs ds h
  clear hd hR hb
  go_enter Try.func20, Try.ntmps20
  go_wp2_with fail
  go_at_call 42
  refine hps.mono ?_
  rintro e w1 ⟨k1, an, nn, cn, z, rfl, hok⟩
  have HK1 : Hid (Kept [] w w1) := k1
  clear hps k1
  by_cases c0 : R.1 = 0
  · obtain ⟨ps, hP, htx, hpl, hbl, hRl⟩ := hok c0
    rw [c0]
    have HB1 : Hid (∀ W, Kept [] w1 W → BytesAt W (.slice ao bs.length cap) bs) := fun W k => HB.out W (HK1.out.then k)
    have hnn : nn = ps.length := by
      rcases hP.own.2 with ⟨h1, h2⟩ | ⟨g, cap', cur, h1, _⟩
      · injection h1 with _ e2 _; omega
      · injection h1
    subst hnn
    have HP : Hid _ := hP
    have HTX : Hid (textP ps = R.2) := htx
    have hRl2 : (textP ps).length ≤ 65536 := by rw [htx]; exact hRl
    clear hok hP htx hRl
    go_wp2
    go_loopw [9, 10, 11] (fun s9 s10 _ wr => ∃ (k : Nat) (g9 : Option Addr) (c9 n9 : Nat), k ≤ ps.length ∧ s9 = .slice g9 n9 c9 ∧ s10 = .int .i64 k ∧ Hid (n9 = (textP (ps.take k)).length ∧ OwnB wr w1.heap.size s9 (textP (ps.take k)) ∧ Kept [] w1 wr)) (fun _ s10 _ _ => ps.length - (intOf s10).toNat)
    case atStart => exact ⟨0, none, 0, 0, Nat.zero_le _, rfl, rfl, rfl, World.ownsRow_nil _ _ _ _, Kept.refl _ _⟩
    case round =>
      obtain ⟨k, g9, c9, n9, hk, rfl, rfl, HS⟩ := hrel
      obtain ⟨hn9, ho9, hk9⟩ := HS.out
      have HO9 : Hid (OwnB wr w1.heap.size (.slice g9 n9 c9) (textP (ps.take k))) := ho9
      have HK9 : Hid (Kept [] w1 wr) := hk9
      have HN9 : Hid (n9 = (textP (ps.take k)).length) := hn9
      clear HS ho9 hk9 hn9
      by_cases hlt : k < ps.length
      · have t1 : decide ((k : Int) < ps.length) = true := by simp; omega
        obtain ⟨p, hp⟩ : ∃ p, ps[k]? = some p := ⟨ps[k], List.getElem?_eq_getElem hlt⟩
        have hpm : p ∈ ps := List.mem_of_getElem? hp
        obtain ⟨g, c2, hv, _, _, _, _⟩ : ∃ g c2, Value.slice an ps.length cn = .slice (some ⟨g, 0, none⟩) ps.length c2 ∧ True ∧ True ∧ True ∧ True := by
          rcases HP.out.own.2 with ⟨_, h2⟩ | ⟨g, cap', cur, h1, _⟩
          · omega
          · exact ⟨g, cap', h1, trivial, trivial, trivial, trivial⟩
        injection hv with e1 _ e3
        subst e1 e3
        obtain ⟨r0, r1, r2⟩ := rowsP_at ps k p hp
        have hcell : ∀ W, Kept [] w1 W → ∀ i u, (rowsP ps)[i]? = some u → W.cell? ⟨g, i, none⟩ = some u := by
          intro W hW i u hu
          have hi : i < ps.length * 3 := by have := (List.getElem?_eq_some_iff.1 hu).1; rwa [rowsP_len] at this
          have h1 := World.ownsRow.cellAt HP.out.own i hi
          rw [hu] at h1
          exact hW.cell h1 (by simp)
        have g0 := hcell _ HK9.out _ _ r0
        have hA := HP.out.each p hpm
        obtain ⟨st, n, hlg, hpt, hfm⟩ := hA.form
        have hnl := hA.len.1
        rw [hlg] at r2
        have HC : Hid (∀ W, Kept [] w1 W → W.cell? ⟨g, k * 3 + 1, none⟩ = some (.int .i64 p.frm) ∧ W.cell? ⟨g, k * 3 + 2, none⟩ = some (.int .i64 n)) := fun W hW => ⟨hcell W hW _ _ r1, hcell W hW _ _ r2⟩
        have HNew : Hid (BytesAt wr (.slice p.an p.nn p.cn) p.ts) := hA.new.kept HK9.out (fun _ _ => by simp)
        have htl := textP_take ps k p hp
        have hle1 := textP_le ps (k + 1)
        rw [htl, List.length_append, hpt, List.length_append] at hle1
        have HTL : Hid (textP (ps.take (k + 1)) = textP (ps.take k) ++ (p.ts ++ (bs.drop st).take n)) := by rw [htl, hpt]; exact rfl
        have HFM : Hid (0 < n → p.frm = st ∧ st + n ≤ bs.length) := hfm
        have hsum : (textP (ps.take k)).length + p.ts.length ≤ 65536 := by omega
        have hn65 : n ≤ 65536 := by
          rcases Nat.eq_zero_or_pos n with h | h
          · omega
          · have := (hfm h).2; omega
        clear hcell r0 r1 r2 hA hlg hpt hfm htl hle1 hp hpm hnl
        have hbase9 := HK9.out.size
        go_wp2_with (at_builtin; refine wpList_append_bytes (by rfl) (.tmp 29) (.tmp 34) (by rfl) (by rfl) HO9.out (by rfl) HNew.out (by omega) HK9.out.size ?_; intro v5 w5 ha; have HA : Hid (OwnB w5 w1.heap.size v5 (textP (ps.take k) ++ p.ts)) := ha.own; have HK5 : Hid (Kept [] w1 w5) := ha.keep w1 [] HK9.out (fun x hx => Or.inr (World.ownsRow.lt HO9.out x hx).1); obtain ⟨g5, c5, rfl⟩ := own_shape ha.own; clear ha)
        clear HO9 HK9 HN9 HNew g0 hbase9
        have HN5 : Hid ((textP (ps.take k)).length + p.ts.length = (textP (ps.take k) ++ p.ts).length) := by rw [List.length_append]; exact rfl
        have HTL2 : Hid (textP (ps.take (k + 1)) = (textP (ps.take k) ++ p.ts) ++ (bs.drop st).take n) := by rw [List.append_assoc]; exact HTL.out
        generalize textP (ps.take k) ++ p.ts = a0 at *
        rw [HN5.out] at hsum ⊢
        clear HTL
        go_loopw [9, 11] (fun s9 s11 wq => ∃ (j : Nat) (g9 : Option Addr) (c9 n9 : Nat), j ≤ n ∧ s9 = .slice g9 n9 c9 ∧ s11 = .int .i64 j ∧ Hid (n9 = (a0 ++ (bs.drop st).take j).length ∧ OwnB wq w1.heap.size s9 (a0 ++ (bs.drop st).take j) ∧ Kept [] w1 wq)) (fun _ s11 _ => n - (intOf s11).toNat)
        case atStart => exact ⟨0, _, _, _, Nat.zero_le _, rfl, rfl, by simp, by simpa using HA.out, HK5.out⟩
        case round =>
          clear HA HK5
          obtain ⟨j, g9, c9, n9, hj, rfl, rfl, HS⟩ := hrel
          obtain ⟨hn9, ho9, hk9⟩ := HS.out
          obtain ⟨g1, g2⟩ := HC.out _ hk9
          have HO9 : Hid (OwnB wr w1.heap.size (.slice g9 n9 c9) (a0 ++ (bs.drop st).take j)) := ho9
          have HK9 : Hid (Kept [] w1 wr) := hk9
          have HN9 : Hid (n9 = (a0 ++ (bs.drop st).take j).length) := hn9
          clear HS ho9 hk9 hn9
          by_cases hjl : j < n
          · have t2 : decide ((j : Int) < n) = true := by simp; omega
            obtain ⟨hfr, hst⟩ := HFM.out (by omega)
            rw [hfr] at g1
            have HBB := HB1.out _ HK9.out
            obtain ⟨_, _, he, hcapb, _, hcc⟩ := HBB
            injection he with e1 e2 e3
            subst e1 e3
            obtain ⟨gb, off, rfl, hh⟩ := hcc (by rintro rfl; simp at hst; omega)
            have gz := hh (st + j) (bs[st + j]?.getD 0) (by rw [List.getElem?_eq_getElem (show st + j < bs.length by omega)]; rfl)
            have hzo := octs_getD hob (st + j)
            have HTk : Hid ((bs.drop st).take (j + 1) = (bs.drop st).take j ++ [bs[st + j]?.getD 0]) := by
              have e := take_snoc (bs.drop st) j (by simp; omega)
              rw [e, List.getD_eq_getElem?_getD, List.getElem?_drop]
              exact rfl
            generalize bs[st + j]?.getD 0 = z at *
            have hw1 : IntKind.i64.wrap ((st : Int) + j) = st + j := by rw [IntKind.wrap_i64]; omega
            have q1 : (0 : Int) ≤ (st : Int) + j := by omega
            have q2 : (st : Int) + j < bs.length := by omega
            have HX : Hid (BytesAt (wr.alloc (.cells #[.int .u8 z] 5)) (.slice (some ⟨wr.heap.size, 0, none⟩) 1 1) [z]) := (OwnB.one z).bytes
            have HO1 : Hid (OwnB (wr.alloc (.cells #[.int .u8 z] 5)) w1.heap.size (.slice g9 n9 c9) (a0 ++ (bs.drop st).take j)) := HO9.out.kept (T := []) ((Kept.refl _ _).alloc _) (by simp)
            have hl1 : (a0 ++ (bs.drop st).take j).length + [z].length ≤ 140737488355328 := by simp; omega
            have hb1 : w1.heap.size ≤ (wr.alloc (.cells #[.int .u8 z] 5)).heap.size := by rw [World.size_alloc]; have := HK9.out.size; omega
            clear hh hcc hfr hst HO9 HN9
            go_wp2_with (at_builtin; refine wpList_append_bytes (by rfl) (.tmp 45) (.tmp 56) (by rfl) (by rfl) HO1.out (by rfl) HX.out hl1 hb1 ?_; intro v5 w5 ha; have HA : Hid (OwnB w5 w1.heap.size v5 (a0 ++ (bs.drop st).take j ++ [z])) := ha.own; have HK5 : Hid (Kept [] w1 w5) := ha.keep w1 [] (HK9.out.alloc _) (fun x hx => Or.inr (World.ownsRow.lt HO1.out x hx).1); obtain ⟨g5, c5, rfl⟩ := own_shape ha.own; clear ha)
            go_roundw
            case rel =>
              refine ⟨j + 1, _, _, _, by omega, rfl, by go_num, ?_, ?_, HK5.out⟩
              · rw [HTk.out, ← List.append_assoc]
                simp
              · rw [HTk.out, ← List.append_assoc]
                have hA := HA.out
                have e : (a0 ++ (bs.drop st).take j ++ [z]).length = a0.length + (min j (bs.length - st) + 1) := by simp
                rw [e] at hA
                exact hA
            case measure => simp [intOf]; omega
          · have t2 : decide ((j : Int) < n) = false := by simp; omega
            obtain rfl : j = n := by omega
            go_wp2
            go_roundw
            case rel => exact ⟨k + 1, _, _, _, by omega, rfl, by go_num, by rw [HTL2.out]; exact HN9.out, by rw [HTL2.out]; exact HO9.out, HK9.out⟩
            case measure => simp [intOf]; omega
      · have t1 : decide ((k : Int) < ps.length) = false := by simp; omega
        obtain rfl : k = ps.length := by omega
        have HF : Hid (BytesAt wr (.slice g9 n9 c9) R.2) := by
          have h := HO9.out.bytes
          rw [List.take_length, HTX.out] at h
          exact h
        have HKF : Hid (Kept [] w wr) := HK1.out.then HK9.out
        have HBF : Hid (∀ x, (Value.slice g9 n9 c9).ownBlock = some x → w.heap.size ≤ x) := fun x hx => Nat.le_trans HK1.out.size (World.ownsRow.lt HO9.out x hx).1
        clear HO9 HK9 HN9
        go_wp2
        go_ret2
        exact ⟨_, by rw [c0]; rfl, HF.out, HKF.out, HBF.out⟩
  · have e0 : (R.1 != 0) = true := by simpa using c0
    have hR2 := HRn.out c0
    go_wp2
    go_ret2
    exact ⟨.slice none 0 0, rfl, by rw [hR2]; exact BytesAt.nil _, HK1.out, fun k hk => by cases hk⟩
end Go.Proofs.Ytoohomfnbkdhfaa
