/-
  WALKS: satchelref14.Parted (at '/'), Good, Check.
-/
import Derived.Test.YtbdkalicgpdbkaaDoorRn3
import Derived.Test.YtbdkalicgpdbkaaDoorId0
import Derived.Test.YtbdkalicgpdbkaaDoorConv
namespace Go.Proofs.YtbdkalicgpdbkaaDoor
open Go.RowKit

theorem Tryd.info_str : (Tryd.prog.info? 9).map (fun i => (i.zero, i.size, i.bytes)) = some (some (.string ⟨#[]⟩), 1, 16) := by kernel_rfl
/-- v is a list of these texts in memory of its own, none of it below B. -/
def StrOwn (w : World) (B : Nat) (v : Value) (L : List (List Int)) : Prop := w.ownsRow B 9 1 v L.length (L.map fun p => Value.string (strOfNums p))
theorem StrOwn.on {w w' : World} {B : Nat} {v : Value} {L : List (List Int)} (h : StrOwn w B v L) (k : Kept [] w w') : StrOwn w' B v L := by
  refine ⟨h.1, ?_⟩
  rcases h.2 with hn | ⟨g, cap', cur, hv, hg, hh, rest⟩
  · exact Or.inl hn
  · exact Or.inr ⟨g, cap', cur, hv, hg, k.heap hh (by simp), rest⟩
theorem StrOwn.form {w : World} {B : Nat} {v : Value} {L : List (List Int)} (h : StrOwn w B v L) (hn : L ≠ []) : ∃ g cap, v = .slice (some ⟨g, 0, none⟩) L.length cap ∧ B ≤ g ∧ ∀ i p, L[i]? = some p → w.cell? ⟨g, i, none⟩ = some (.string (strOfNums p)) := by
  rcases h.2 with ⟨_, h0⟩ | ⟨g, cap', cur, hv, hg, hh, hnc, hcm, hcs, htk⟩
  · exact absurd (List.eq_nil_of_length_eq_zero h0) hn
  · refine ⟨g, cap', hv, hg, fun i p hp => ?_⟩
    have hi : i < L.length := (List.getElem?_eq_some_iff.1 hp).1
    rw [cell_of_row _ _ _ _ _ _ hh, ← Array.getElem?_toList]
    have h2 : (cur.toList.take (L.length * 1))[i]? = cur.toList[i]? := List.getElem?_take_of_lt (by omega)
    rw [← h2, htk]
    simp [hp]
theorem str_sub (l : List Int) (f k : Nat) : (strOfNums l).extract f k = strOfNums ((l.take k).drop f) := by
  unfold strOfNums
  rw [ByteArray.extract_mk, List.drop_take, List.map_take, List.map_drop]
theorem cut_mem : ∀ (xs acc p : List Int), p ∈ cutL acc xs → p.length ≤ acc.length + xs.length ∧ ∀ u, u ∈ p → u ∈ acc ∨ u ∈ xs
  | [], acc, p, h => by
    unfold cutL at h
    obtain rfl := List.mem_singleton.1 h
    exact ⟨by simp, fun u hu => Or.inl hu⟩
  | b :: t, acc, p, h => by
    unfold cutL at h
    by_cases hb : b = 47
    · rw [if_pos hb] at h
      rcases List.mem_cons.1 h with rfl | h
      · exact ⟨by simp, fun u hu => Or.inl hu⟩
      · obtain ⟨h1, h2⟩ := cut_mem t [] p h
        refine ⟨by simp at h1 ⊢; omega, fun u hu => ?_⟩
        rcases h2 u hu with h3 | h3
        · cases h3
        · exact Or.inr (List.mem_cons_of_mem _ h3)
    · rw [if_neg hb] at h
      obtain ⟨h1, h2⟩ := cut_mem t _ p h
      refine ⟨by simp at h1 ⊢; omega, fun u hu => ?_⟩
      rcases h2 u hu with h3 | h3
      · rcases List.mem_append.1 h3 with h3 | h3
        · exact Or.inl h3
        · obtain rfl := List.mem_singleton.1 h3
          exact Or.inr List.mem_cons_self
      · exact Or.inr (List.mem_cons_of_mem _ h3)
theorem cut_ne (xs acc : List Int) : cutL acc xs ≠ [] := by
  cases xs with
  | nil => unfold cutL; simp
  | cons b t =>
    unfold cutL
    split
    · simp
    · exact cut_ne t _
/-- How far the cutting is. -/
def CutAt (xs : List Int) (k f : Nat) (L : List (List Int)) : Prop := f ≤ k ∧ L.length ≤ k ∧ ((k ≤ xs.length ∧ L ++ cutL ((xs.take k).drop f) (xs.drop k) = cutL [] xs) ∨ (k = xs.length + 1 ∧ L = cutL [] xs))
theorem CutAt.start (xs : List Int) : CutAt xs 0 0 [] := ⟨Nat.le_refl _, Nat.le_refl _, Or.inl ⟨Nat.zero_le _, by simp⟩⟩
theorem CutAt.ends {xs : List Int} {k f : Nat} {L : List (List Int)} (h : CutAt xs k f L) (hk : xs.length < k) : L = cutL [] xs := by
  obtain ⟨_, _, h | h⟩ := h
  · omega
  · exact h.2
theorem CutAt.last {xs : List Int} {f : Nat} {L : List (List Int)} (h : CutAt xs xs.length f L) : CutAt xs (xs.length + 1) (xs.length + 1) (L ++ [(xs.take xs.length).drop f]) := by
  obtain ⟨h0, h1, h | h⟩ := h
  · refine ⟨Nat.le_refl _, by simp; omega, Or.inr ⟨rfl, ?_⟩⟩
    have e := h.2
    rw [List.drop_length] at e
    exact e
  · omega
theorem CutAt.cut {xs : List Int} {k f : Nat} {L : List (List Int)} (h : CutAt xs k f L) (hk : k < xs.length) (hx : xs.getD k 0 = 47) : CutAt xs (k + 1) (k + 1) (L ++ [(xs.take k).drop f]) := by
  obtain ⟨h0, h1, h | h⟩ := h
  · refine ⟨Nat.le_refl _, by simp; omega, Or.inl ⟨by omega, ?_⟩⟩
    have e := h.2
    rw [List.drop_eq_getElem_cons hk] at e
    have e2 : xs[k] = 47 := by rw [← hx, List.getD_eq_getElem?_getD, List.getElem?_eq_getElem hk]; rfl
    rw [e2, cutL, if_pos rfl] at e
    have e3 : (xs.take (k + 1)).drop (k + 1) = [] := List.drop_eq_nil_of_le (by rw [List.length_take]; omega)
    rw [← e, List.append_assoc, e3]
    rfl
  · omega
theorem CutAt.next {xs : List Int} {k f : Nat} {L : List (List Int)} (h : CutAt xs k f L) (hk : k < xs.length) (hx : xs.getD k 0 ≠ 47) : CutAt xs (k + 1) f L := by
  obtain ⟨h0, h1, h | h⟩ := h
  · refine ⟨by omega, by omega, Or.inl ⟨by omega, ?_⟩⟩
    have e := h.2
    rw [List.drop_eq_getElem_cons hk] at e
    have e2 : xs[k] = xs.getD k 0 := by rw [List.getD_eq_getElem?_getD, List.getElem?_eq_getElem hk]; rfl
    rw [e2, cutL, if_neg hx] at e
    rw [← e, take_succ_getD hk, List.drop_append_of_le_length (by rw [List.length_take]; omega)]
  · omega

set_option maxRecDepth 100000 in
set_option maxHeartbeats 4000000 in
theorem Parted_any (xs : List Int) (ho : Octs xs) (hs : xs.length ≤ 100000) (w : World) : Calls Tryd.prog 52 #[.string (strOfNums xs), .int .u8 47] w fun e w' => ∃ v, e = .returned v ∧ StrOwn w' w.heap.size v (cutL [] xs) ∧ Kept [] w w' := by
  have hsz := strOfNums_size xs
  have HIX : Hid (∀ k, k < xs.length → ∀ W, (Instr.index 9 (.string (strOfNums xs)) (.int .i64 k)).run Tryd.prog W = .ok (.int .u8 (xs.getD k 0)) W) := fun k hk W => str_ix xs ho k hk W
  have HSU : Hid (∀ f k, (strOfNums xs).extract f k = strOfNums ((xs.take k).drop f)) := fun f k => str_sub xs f k
  clear ho
  generalize strOfNums xs = S at *
  go_enter Tryd.func52, Tryd.ntmps52
  go_wp2
  go_loopw [5, 6, 7] (fun s5 s6 s7 wr => ∃ (k f : Nat) (L : List (List Int)) (u : Value), u = s5 ∧ s6 = .int .i64 f ∧ s7 = .int .i64 k ∧ k ≤ xs.length + 1 ∧ f ≤ k ∧ L.length ≤ k ∧ Hid (CutAt xs k f L) ∧ Hid (StrOwn wr w.heap.size u L) ∧ Hid (Kept [] w wr)) (fun _ _ s7 _ => xs.length + 1 - (intOf s7).toNat)
  case atStart => exact ⟨0, 0, [], _, rfl, rfl, rfl, Nat.zero_le _, Nat.le_refl _, Nat.le_refl _, CutAt.start xs, World.ownsRow_nil _ _ _ _, Kept.refl _ _⟩
  case round =>
    obtain ⟨k, f, L, u, rfl, rfl, rfl, hk, hfk, hLk, HC, HO, HK⟩ := hrel
    have hml : (L.map fun p => Value.string (strOfNums p)).length ≤ 1000000 := by rw [List.length_map]; omega
    have hbs : w.heap.size ≤ wr.heap.size := HK.out.size
    have HB : Hid (∀ x, u.ownBlock = some x → w.heap.size ≤ x) := fun x hx => (World.ownsRow.lt HO.out x hx).1
    have HO1 : Hid (∀ o, (wr.alloc o).ownsRow w.heap.size 9 1 u (L.map fun p => Value.string (strOfNums p)).length (L.map fun p => Value.string (strOfNums p))) := fun o => by
      rw [List.length_map]
      exact HO.out.on ((Kept.refl [] wr).alloc _)
    have HK1 : Hid (∀ o, Kept [] w (wr.alloc o)) := fun o => HK.out.alloc _
    have HC1 : Hid (∀ p : List Int, (wr.alloc (.cells #[.string (strOfNums p)] 9)).cell? ⟨wr.heap.size, 0, none⟩ = some (.string (strOfNums p))) := fun p => by
      rw [cell_of_row _ _ _ _ _ _ (heap_alloc_new wr _)]
      rfl
    have HAP : Hid (∀ (W : World) (v : Value) (p : List Int), W.ownsRow w.heap.size 9 1 v ((L.map fun p => Value.string (strOfNums p)) ++ [Value.string (strOfNums p)]).length ((L.map fun p => Value.string (strOfNums p)) ++ [Value.string (strOfNums p)]) → StrOwn W w.heap.size v (L ++ [p])) := fun W v p h => by
      unfold StrOwn
      rw [List.map_append, List.length_append]
      rw [List.length_append, List.length_map] at h
      exact h
    by_cases hgt : xs.length < k
    · have t0 : decide ((k : Int) ≤ (xs.length : Int)) = false := by simp; omega
      have HL : Hid (L = cutL [] xs) := HC.out.ends hgt
      go_wp2
      go_ret
      refine ⟨_, rfl, ?_, HK.out⟩
      rw [← HL.out]
      exact HO.out
    · have t0 : decide ((k : Int) ≤ (xs.length : Int)) = true := by simp; omega
      by_cases heq : k = xs.length
      · have t1 : ((k : Int) == (xs.length : Int)) = true := beq_iff_eq.2 (by omega)
        have HN : Hid (CutAt xs (k + 1) (k + 1) (L ++ [(xs.take k).drop f])) := by
          have h := HC.out
          rw [heq] at h
          have h2 := h.last
          rw [← heq] at h2
          exact h2
        have hks : k ≤ S.size := by omega
        have hsu := HSU.out f k
        clear heq HC
        generalize (xs.take k).drop f = p at *
        go_wp2_with (first
          | (at_builtin; refine wpList_append_one rfl (.tmp 25) (.tmp 30) 23 9 (.string ⟨#[]⟩) 16 Tryd.underlying23 Tryd.info_str rfl rfl rfl (HO1.out _) rfl (HC1.out p) rfl hml (by decide) (by simp; omega) ?_
             intro v2 w2 h2 k2 _
             have HO2 : Hid (StrOwn w2 w.heap.size v2 (L ++ [p])) := HAP.out _ _ _ h2
             have hq : ∀ y, y ∈ u.ownBlock.toList → w.heap.size ≤ y := fun y hy => HB.out y (by simpa using hy)
             have HK2 : Hid (Kept [] w w2) := (HK1.out _).trans k2 (fun y hy => Or.inr (hq y hy))
             clear h2 k2 hq))
        go_roundw
        case rel => exact ⟨k + 1, k + 1, L ++ [p], _, rfl, by go_num, by go_num, by omega, by omega, by simp; omega, HN, HO2, HK2⟩
        case measure => simp [intOf]; omega
      · have t1 : ((k : Int) == (xs.length : Int)) = false := beq_eq_false_iff_ne.2 (by omega)
        have hlt : k < xs.length := by omega
        have hix := HIX.out k hlt
        by_cases hx : xs.getD k 0 = 47
        · have t2 : (xs.getD k 0 == 47) = true := by simpa using hx
          have HN : Hid (CutAt xs (k + 1) (k + 1) (L ++ [(xs.take k).drop f])) := HC.out.cut hlt hx
          have hks : k ≤ S.size := by omega
          have hsu := HSU.out f k
          clear heq HC hx
          generalize (xs.take k).drop f = p at *
          generalize xs.getD k 0 = x at *
          go_wp2_with (first
            | (at_builtin; refine wpList_append_one rfl (.tmp 25) (.tmp 30) 23 9 (.string ⟨#[]⟩) 16 Tryd.underlying23 Tryd.info_str rfl rfl rfl (HO1.out _) rfl (HC1.out p) rfl hml (by decide) (by simp; omega) ?_
               intro v2 w2 h2 k2 _
               have HO2 : Hid (StrOwn w2 w.heap.size v2 (L ++ [p])) := HAP.out _ _ _ h2
               have hq : ∀ y, y ∈ u.ownBlock.toList → w.heap.size ≤ y := fun y hy => HB.out y (by simpa using hy)
               have HK2 : Hid (Kept [] w w2) := (HK1.out _).trans k2 (fun y hy => Or.inr (hq y hy))
               clear h2 k2 hq))
          go_roundw
          case rel => exact ⟨k + 1, k + 1, L ++ [p], _, rfl, by go_num, by go_num, by omega, by omega, by simp; omega, HN, HO2, HK2⟩
          case measure => simp [intOf]; omega
        · have t2 : (xs.getD k 0 == 47) = false := by simpa using hx
          have HN : Hid (CutAt xs (k + 1) f L) := HC.out.next hlt hx
          clear heq HC hx
          generalize xs.getD k 0 = x at *
          go_wp2
          go_roundw
          case rel => exact ⟨k + 1, f, L, _, rfl, rfl, by go_num, by omega, by omega, by omega, HN, HO, HK⟩
          case measure => simp [intOf]; omega

def goodB (xs : List Int) : Bool := decide (1 ≤ xs.length) && decide (xs.length ≤ 255) && !decide (xs = headN) && lineB xs 255 && (cutL [] xs).all partB
def checkB (xs : List Int) : Bool := !decide (xs = headN) && decide (xs.length ≤ 255) && utfB xs && runB 47 xs
theorem run_ok : ∀ (xs : List Int) (l : Int), runB l xs = true → xs.all okByte = true
  | [], _, _ => rfl
  | b :: t, l, h => by
    rw [runB, Bool.and_eq_true] at h
    rw [List.all_cons, run_ok t b h.2, Bool.and_true]
    have h1 := h.1
    unfold mayB alnumB sgnB at h1
    unfold okByte
    simp only [Bool.or_eq_true, Bool.and_eq_true, decide_eq_true_eq] at h1
    have : 32 ≤ b ∧ ¬ b = 127 := by
      by_cases h2 : l = 47
      · rw [if_pos h2] at h1
        simp only [decide_eq_true_eq] at h1
        omega
      · rw [if_neg h2] at h1
        by_cases h3 : l = 46
        · rw [if_pos h3] at h1
          simp only [Bool.or_eq_true, decide_eq_true_eq] at h1
          omega
        · rw [if_neg h3] at h1
          simp only [Bool.or_eq_true, decide_eq_true_eq] at h1
          omega
    rw [decide_eq_true this.1, decide_eq_false this.2]
    rfl
/-- The two tellings of a good name are one. -/
theorem good_check (xs : List Int) : goodB xs = checkB xs := by
  unfold goodB checkB lineB
  rw [← run_parts]
  cases hr : runB 47 xs with
  | false => simp
  | true =>
    have h1 : 1 ≤ xs.length := by
      cases xs with
      | nil => exact absurd hr (by decide)
      | cons a t => simp
    have h3 : decide ((xs.length : Int) ≤ 255) = decide (xs.length ≤ 255) := decide_eq_decide.2 (by omega)
    rw [run_ok xs 47 hr, decide_eq_true h1, h3]
    cases decide (xs.length ≤ 255) <;> cases decide (xs = headN) <;> cases utfB xs <;> rfl

set_option maxRecDepth 100000 in
set_option maxHeartbeats 4000000 in
theorem Good_any (xs : List Int) (ho : Octs xs) (hs : xs.length ≤ 140737488355328) (w : World) : Calls Tryd.prog 35 #[.string (strOfNums xs)] w fun e w' => e = .returned (.bool (checkB xs)) ∧ Kept [] w w' := by
  have hline := RLine_any xs ho hs 255 w
  have hsz := strOfNums_size xs
  have hh := str_list xs [72, 69, 65, 68] [72, 69, 65, 68] ho (fun u hu => by simp at hu; omega) rfl
  obtain ⟨r, hr⟩ : ∃ r, r = checkB xs := ⟨_, rfl⟩
  have hg : r = goodB xs := by rw [hr, good_check]
  rw [← hr]
  clear hr
  by_cases c1 : xs.length < 1
  · have t1 : decide ((xs.length : Int) < 1) = true := by simp; omega
    have HR : Hid (r = false) := by
      have : r = false := by rw [hg]; unfold goodB; rw [decide_eq_false (by omega)]; rfl
      exact this
    clear hh hg hline ho
    generalize strOfNums xs = S at *
    go_enter Tryd.func35, Tryd.ntmps35
    go_wp2
    go_ret
    exact ⟨by rw [HR.out]; rfl, Kept.refl _ _⟩
  have t1 : decide ((xs.length : Int) < 1) = false := by simp; omega
  by_cases c2 : 255 < xs.length
  · have t2 : decide ((255 : Int) < (xs.length : Int)) = true := by simp; omega
    have HR : Hid (r = false) := by
      have : r = false := by rw [hg]; unfold goodB; rw [decide_eq_false (by omega : ¬ xs.length ≤ 255)]; simp
      exact this
    clear hh hg hline ho
    generalize strOfNums xs = S at *
    go_enter Tryd.func35, Tryd.ntmps35
    go_wp2
    go_ret
    exact ⟨by rw [HR.out]; rfl, Kept.refl _ _⟩
  have t2 : decide ((255 : Int) < (xs.length : Int)) = false := by simp; omega
  by_cases c3 : xs = headN
  · have HR : Hid (r = false) := by
      have : r = false := by rw [hg]; unfold goodB; rw [decide_eq_true c3]; simp
      exact this
    have p3 := hh.2 c3
    clear hh hg hline ho c3
    generalize strOfNums xs = S at *
    go_enter Tryd.func35, Tryd.ntmps35
    go_wp2
    go_ret
    exact ⟨by rw [HR.out]; rfl, Kept.refl _ _⟩
  have p3 : ¬ (strOfNums xs).toList = [72, 69, 65, 68] := fun e => c3 (hh.1 e)
  have q3 : ((strOfNums xs).toList == [72, 69, 65, 68]) = false := by simpa using p3
  by_cases c4 : lineB xs 255 = true
  · rw [c4] at hline
    have HG : Hid (r = (cutL [] xs).all partB) := by
      have : r = (cutL [] xs).all partB := by
        rw [hg]; unfold goodB; rw [decide_eq_true (by omega : 1 ≤ xs.length), decide_eq_true (by omega : xs.length ≤ 255), decide_eq_false c3, c4]; rfl
      exact this
    have hpart := Parted_any xs ho (by omega)
    have HP : Hid (∀ p, p ∈ cutL [] xs → ∀ W, Calls Tryd.prog 55 #[.string (strOfNums p)] W fun e w' => e = .returned (.bool (partB p)) ∧ w' = W) := fun p hp W => by
      obtain ⟨h1, h2⟩ := cut_mem xs [] p hp
      refine part_any p (fun u hu => ?_) (by simp at h1; omega) W
      rcases h2 u hu with h3 | h3
      · cases h3
      · exact ho u h3
    have hne := cut_ne xs []
    have hcl : (cutL [] xs).length ≤ 100000 := by
      have key : ∀ (xs acc : List Int), (cutL acc xs).length ≤ xs.length + 1 := fun xs => by
        induction xs with
        | nil => intro acc; simp [cutL]
        | cons b t ih =>
          intro acc
          unfold cutL
          split
          · have := ih []; simp; omega
          · have := ih (acc ++ [b]); simp; omega
      have := key xs []
      omega
    clear hh hg c3 c4 p3 ho
    generalize strOfNums xs = S at *
    obtain ⟨Lp, hLp⟩ : ∃ Lp, Lp = cutL [] xs := ⟨_, rfl⟩
    rw [← hLp] at HG hpart HP hne hcl
    clear hLp
    go_enter Tryd.func35, Tryd.ntmps35
    go_wp2_with (first
      | (go_at_call 54; with_reducible refine hline.mono ?_; rintro e w1 ⟨rfl, hw1⟩; subst w1)
      | (go_at_call 52; with_reducible refine (hpart _).mono ?_; rintro e w2 ⟨v, rfl, ho2, k2⟩
         obtain ⟨g, cap, rfl, _, hcells⟩ := ho2.form hne
         have HCE : Hid (∀ i p, Lp[i]? = some p → w2.cell? ⟨g, i, none⟩ = some (.string (strOfNums p))) := hcells
         have HK2 : Hid (Kept [] w w2) := k2
         clear k2 ho2 hcells))
    go_loop [4] (fun s4 => ∃ k : Nat, k ≤ Lp.length ∧ s4 = .int .i64 k ∧ Hid ((Lp.take k).all partB = true)) (fun s4 => Lp.length - (intOf s4).toNat)
    case atStart => exact ⟨0, Nat.zero_le _, rfl, rfl⟩
    case round =>
      obtain ⟨k, hk, rfl, HA⟩ := hrel
      by_cases hlt : k < Lp.length
      · obtain ⟨p, hp⟩ : ∃ p, Lp[k]? = some p := ⟨_, List.getElem?_eq_getElem hlt⟩
        have t3 : decide ((k : Int) < (Lp.length : Int)) = true := by simp; omega
        have hcell := HCE.out k p hp
        have hpp := HP.out p (List.mem_of_getElem? hp)
        by_cases hb : partB p = true
        · have HN : Hid ((Lp.take (k + 1)).all partB = true) := by
            have : (Lp.take (k + 1)).all partB = true := by
              rw [List.take_add_one, hp, List.all_append, HA.out]
              simp [hb]
            exact this
          rw [hb] at hpp
          clear hb hp
          go_wp2_with (go_at_call 55; with_reducible refine (hpp _).mono ?_; rintro e w9 ⟨rfl, hw9⟩; subst w9)
          go_round
          case rel => exact ⟨k + 1, by omega, by go_num, HN⟩
          case measure => simp [intOf]; omega
        · have hb' : partB p = false := by simpa using hb
          have HR : Hid (r = false) := by
            have : r = false := by
              rw [HG.out, List.all_eq_false]
              exact ⟨p, List.mem_of_getElem? hp, by simp [hb']⟩
            exact this
          rw [hb'] at hpp
          clear hb hb' hp
          go_wp2_with (go_at_call 55; with_reducible refine (hpp _).mono ?_; rintro e w9 ⟨rfl, hw9⟩; subst w9)
          go_ret
          exact ⟨by rw [HR.out]; rfl, HK2.out⟩
      · have t3 : decide ((k : Int) < (Lp.length : Int)) = false := by simp; omega
        have HR : Hid (r = true) := by
          have h := HA.out
          rw [List.take_of_length_le (by omega)] at h
          exact HG.out.trans h
        go_wp2
        go_ret
        exact ⟨by rw [HR.out]; rfl, HK2.out⟩
  · have c4' : lineB xs 255 = false := by simpa using c4
    rw [c4'] at hline
    have HR : Hid (r = false) := by
      have : r = false := by rw [hg]; unfold goodB; rw [c4']; simp
      exact this
    clear hh hg c3 c4 c4' p3 ho
    generalize strOfNums xs = S at *
    go_enter Tryd.func35, Tryd.ntmps35
    go_wp2_with (go_at_call 54; with_reducible refine hline.mono ?_; rintro e w1 ⟨rfl, hw1⟩; subst w1)
    go_ret
    exact ⟨by rw [HR.out]; rfl, Kept.refl _ _⟩

end Go.Proofs.YtbdkalicgpdbkaaDoor
