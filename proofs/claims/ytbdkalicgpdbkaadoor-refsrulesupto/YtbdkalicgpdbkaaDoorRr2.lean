/-
  WALK: satchelref14.Parted at colons.
-/
import Derived.Test.YtbdkalicgpdbkaaDoorRr1
namespace Go.Proofs.YtbdkalicgpdbkaaDoor
open Go.RowKit

theorem cutC_mem : ∀ (xs acc p : List Int), p ∈ cutC acc xs → p.length ≤ acc.length + xs.length ∧ ∀ u, u ∈ p → u ∈ acc ∨ u ∈ xs
  | [], acc, p, h => by
    unfold cutC at h
    obtain rfl := List.mem_singleton.1 h
    exact ⟨by simp, fun u hu => Or.inl hu⟩
  | b :: t, acc, p, h => by
    unfold cutC at h
    by_cases hb : b = 58
    · rw [if_pos hb] at h
      rcases List.mem_cons.1 h with rfl | h
      · exact ⟨by simp, fun u hu => Or.inl hu⟩
      · obtain ⟨h1, h2⟩ := cutC_mem t [] p h
        refine ⟨by simp at h1 ⊢; omega, fun u hu => ?_⟩
        rcases h2 u hu with h3 | h3
        · cases h3
        · exact Or.inr (List.mem_cons_of_mem _ h3)
    · rw [if_neg hb] at h
      obtain ⟨h1, h2⟩ := cutC_mem t _ p h
      refine ⟨by simp at h1 ⊢; omega, fun u hu => ?_⟩
      rcases h2 u hu with h3 | h3
      · rcases List.mem_append.1 h3 with h3 | h3
        · exact Or.inl h3
        · obtain rfl := List.mem_singleton.1 h3
          exact Or.inr List.mem_cons_self
      · exact Or.inr (List.mem_cons_of_mem _ h3)
/-- How far the cutting is. -/
def CutCAt (xs : List Int) (k f : Nat) (L : List (List Int)) : Prop := f ≤ k ∧ L.length ≤ k ∧ ((k ≤ xs.length ∧ L ++ cutC ((xs.take k).drop f) (xs.drop k) = cutC [] xs) ∨ (k = xs.length + 1 ∧ L = cutC [] xs))
theorem CutCAt.start (xs : List Int) : CutCAt xs 0 0 [] := ⟨Nat.le_refl _, Nat.le_refl _, Or.inl ⟨Nat.zero_le _, by simp⟩⟩
theorem CutCAt.ends {xs : List Int} {k f : Nat} {L : List (List Int)} (h : CutCAt xs k f L) (hk : xs.length < k) : L = cutC [] xs := by
  obtain ⟨_, _, h | h⟩ := h
  · omega
  · exact h.2
theorem CutCAt.last {xs : List Int} {f : Nat} {L : List (List Int)} (h : CutCAt xs xs.length f L) : CutCAt xs (xs.length + 1) (xs.length + 1) (L ++ [(xs.take xs.length).drop f]) := by
  obtain ⟨h0, h1, h | h⟩ := h
  · refine ⟨Nat.le_refl _, by simp; omega, Or.inr ⟨rfl, ?_⟩⟩
    have e := h.2
    rw [List.drop_length] at e
    exact e
  · omega
theorem CutCAt.cut {xs : List Int} {k f : Nat} {L : List (List Int)} (h : CutCAt xs k f L) (hk : k < xs.length) (hx : xs.getD k 0 = 58) : CutCAt xs (k + 1) (k + 1) (L ++ [(xs.take k).drop f]) := by
  obtain ⟨h0, h1, h | h⟩ := h
  · refine ⟨Nat.le_refl _, by simp; omega, Or.inl ⟨by omega, ?_⟩⟩
    have e := h.2
    rw [List.drop_eq_getElem_cons hk] at e
    have e2 : xs[k] = 58 := by rw [← hx, List.getD_eq_getElem?_getD, List.getElem?_eq_getElem hk]; rfl
    rw [e2, cutC, if_pos rfl] at e
    have e3 : (xs.take (k + 1)).drop (k + 1) = [] := List.drop_eq_nil_of_le (by rw [List.length_take]; omega)
    rw [← e, List.append_assoc, e3]
    rfl
  · omega
theorem CutCAt.next {xs : List Int} {k f : Nat} {L : List (List Int)} (h : CutCAt xs k f L) (hk : k < xs.length) (hx : xs.getD k 0 ≠ 58) : CutCAt xs (k + 1) f L := by
  obtain ⟨h0, h1, h | h⟩ := h
  · refine ⟨by omega, by omega, Or.inl ⟨by omega, ?_⟩⟩
    have e := h.2
    rw [List.drop_eq_getElem_cons hk] at e
    have e2 : xs[k] = xs.getD k 0 := by rw [List.getD_eq_getElem?_getD, List.getElem?_eq_getElem hk]; rfl
    rw [e2, cutC, if_neg hx] at e
    rw [← e, take_succ_getD hk, List.drop_append_of_le_length (by rw [List.length_take]; omega)]
  · omega

set_option maxRecDepth 100000 in
set_option maxHeartbeats 4000000 in
theorem PartedC_any (xs : List Int) (ho : Octs xs) (hs : xs.length ≤ 1100000) (w : World) : Calls Tryd.prog 52 #[.string (strOfNums xs), .int .u8 58] w fun e w' => ∃ v, e = .returned v ∧ StrOwn w' w.heap.size v (cutC [] xs) ∧ Kept [] w w' := by
  have hsz := strOfNums_size xs
  have HIX : Hid (∀ k, k < xs.length → ∀ W, (Instr.index 9 (.string (strOfNums xs)) (.int .i64 k)).run Tryd.prog W = .ok (.int .u8 (xs.getD k 0)) W) := fun k hk W => str_ix xs ho k hk W
  have HSU : Hid (∀ f k, (strOfNums xs).extract f k = strOfNums ((xs.take k).drop f)) := fun f k => str_sub xs f k
  clear ho
  generalize strOfNums xs = S at *
  go_enter Tryd.func52, Tryd.ntmps52
  go_wp2
  go_loopw [5, 6, 7] (fun s5 s6 s7 wr => ∃ (k f : Nat) (L : List (List Int)) (u : Value), u = s5 ∧ s6 = .int .i64 f ∧ s7 = .int .i64 k ∧ k ≤ xs.length + 1 ∧ f ≤ k ∧ L.length ≤ k ∧ Hid (CutCAt xs k f L) ∧ Hid (StrOwn wr w.heap.size u L) ∧ Hid (Kept [] w wr)) (fun _ _ s7 _ => xs.length + 1 - (intOf s7).toNat)
  case atStart => exact ⟨0, 0, [], _, rfl, rfl, rfl, Nat.zero_le _, Nat.le_refl _, Nat.le_refl _, CutCAt.start xs, World.ownsRow_nil _ _ _ _, Kept.refl _ _⟩
  case round =>
    obtain ⟨k, f, L, u, rfl, rfl, rfl, hk, hfk, hLk, HC, HO, HK⟩ := hrel
    have hml : (L.map fun p => Value.string (strOfNums p)).length ≤ 2000000 := by rw [List.length_map]; omega
    have hbs : w.heap.size ≤ wr.heap.size := HK.out.size
    have HB : Hid (∀ x, u.ownBlock = some x → w.heap.size ≤ x) := fun x hx => (World.ownsRow.lt HO.out x hx).1
    have HO1 : Hid (∀ o, (wr.alloc o).ownsRow w.heap.size 9 1 u (L.map fun p => Value.string (strOfNums p)).length (L.map fun p => Value.string (strOfNums p))) := fun o => by
      rw [List.length_map]
      exact HO.out.on ((Kept.refl [] wr).alloc _)
    have HK1 : Hid (∀ o, Kept [] w (wr.alloc o)) := fun o => HK.out.alloc _
    have HC1 : Hid (∀ p : List Int, (wr.alloc (.cells #[.string (strOfNums p)] 9)).cell? ⟨wr.heap.size, 0, none⟩ = some (.string (strOfNums p))) := fun p => by
      rw [cell_of_row _ _ _ _ _ _ (heap_alloc_new wr _)]
      rfl
    have HAP : Hid (∀ (W : World) (v : Value) (p : List Int), W.ownsRow w.heap.size 9 1 v ((L.map fun p => Value.string (strOfNums p)) ++ [Value.string (strOfNums p)]).length ((L.map fun p => Value.string (strOfNums p)) ++ [Value.string (strOfNums p)]) → StrOwn W w.heap.size v (L ++ [p])) := fun W v p h => by
      unfold StrOwn
      rw [List.map_append, List.length_append]
      rw [List.length_append, List.length_map] at h
      exact h
    by_cases hgt : xs.length < k
    · have t0 : decide ((k : Int) ≤ (xs.length : Int)) = false := by simp; omega
      have HL : Hid (L = cutC [] xs) := HC.out.ends hgt
      go_wp2
      go_ret
      refine ⟨_, rfl, ?_, HK.out⟩
      rw [← HL.out]
      exact HO.out
    · have t0 : decide ((k : Int) ≤ (xs.length : Int)) = true := by simp; omega
      by_cases heq : k = xs.length
      · have t1 : ((k : Int) == (xs.length : Int)) = true := beq_iff_eq.2 (by omega)
        have HN : Hid (CutCAt xs (k + 1) (k + 1) (L ++ [(xs.take k).drop f])) := by
          have h := HC.out
          rw [heq] at h
          have h2 := h.last
          rw [← heq] at h2
          exact h2
        have hks : k ≤ S.size := by omega
        have hsu := HSU.out f k
        clear heq HC
        generalize (xs.take k).drop f = p at *
        go_wp2_with (first
          | (at_builtin; refine wpList_append_big rfl (.tmp 25) (.tmp 30) 23 9 (.string ⟨#[]⟩) 16 Tryd.underlying23 Tryd.info_str rfl rfl rfl (HO1.out _) rfl (HC1.out p) rfl hml (by decide) (by simp; omega) ?_
             intro v2 w2 h2 k2 _
             have HO2 : Hid (StrOwn w2 w.heap.size v2 (L ++ [p])) := HAP.out _ _ _ h2
             have hq : ∀ y, y ∈ u.ownBlock.toList → w.heap.size ≤ y := fun y hy => HB.out y (by simpa using hy)
             have HK2 : Hid (Kept [] w w2) := (HK1.out _).trans k2 (fun y hy => Or.inr (hq y hy))
             clear h2 k2 hq))
        go_roundw
        case rel => exact ⟨k + 1, k + 1, L ++ [p], _, rfl, by go_num, by go_num, by omega, by omega, by simp; omega, HN, HO2, HK2⟩
        case measure => simp [intOf]; omega
      · have t1 : ((k : Int) == (xs.length : Int)) = false := beq_eq_false_iff_ne.2 (by omega)
        have hlt : k < xs.length := by omega
        have hix := HIX.out k hlt
        by_cases hx : xs.getD k 0 = 58
        · have t2 : (xs.getD k 0 == 58) = true := by simpa using hx
          have HN : Hid (CutCAt xs (k + 1) (k + 1) (L ++ [(xs.take k).drop f])) := HC.out.cut hlt hx
          have hks : k ≤ S.size := by omega
          have hsu := HSU.out f k
          clear heq HC hx
          generalize (xs.take k).drop f = p at *
          generalize xs.getD k 0 = x at *
          go_wp2_with (first
            | (at_builtin; refine wpList_append_big rfl (.tmp 25) (.tmp 30) 23 9 (.string ⟨#[]⟩) 16 Tryd.underlying23 Tryd.info_str rfl rfl rfl (HO1.out _) rfl (HC1.out p) rfl hml (by decide) (by simp; omega) ?_
               intro v2 w2 h2 k2 _
               have HO2 : Hid (StrOwn w2 w.heap.size v2 (L ++ [p])) := HAP.out _ _ _ h2
               have hq : ∀ y, y ∈ u.ownBlock.toList → w.heap.size ≤ y := fun y hy => HB.out y (by simpa using hy)
               have HK2 : Hid (Kept [] w w2) := (HK1.out _).trans k2 (fun y hy => Or.inr (hq y hy))
               clear h2 k2 hq))
          go_roundw
          case rel => exact ⟨k + 1, k + 1, L ++ [p], _, rfl, by go_num, by go_num, by omega, by omega, by simp; omega, HN, HO2, HK2⟩
          case measure => simp [intOf]; omega
        · have t2 : (xs.getD k 0 == 58) = false := by simpa using hx
          have HN : Hid (CutCAt xs (k + 1) f L) := HC.out.next hlt hx
          clear heq HC hx
          generalize xs.getD k 0 = x at *
          go_wp2
          go_roundw
          case rel => exact ⟨k + 1, f, L, _, rfl, rfl, by go_num, by omega, by omega, by omega, HN, HO, HK⟩
          case measure => simp [intOf]; omega
end Go.Proofs.YtbdkalicgpdbkaaDoor
