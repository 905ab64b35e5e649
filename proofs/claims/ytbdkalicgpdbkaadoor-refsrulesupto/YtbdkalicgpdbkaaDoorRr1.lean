/-
  WALK: satchelref14.Words: a text parted by blanks.
-/
import Derived.Test.YtbdkalicgpdbkaaDoorRr0
import Derived.Test.YtbdkalicgpdbkaaDoorRm9
import Derived.Test.YtbdkalicgpdbkaaDoorTkP
namespace Go.Proofs.YtbdkalicgpdbkaaDoor
open Go.RowKit

/-- How far the parting is: L told, P under way. -/
structure WordAt (xs : List Int) (k : Nat) (P : List Int) (L : List (List Int)) : Prop where
  len : L.length ≤ k
  pl : P.length ≤ k
  told : (k ≤ xs.length ∧ L ++ wordsL P (xs.drop k) = wordsL [] xs) ∨ (k = xs.length + 1 ∧ L = wordsL [] xs)
theorem WordAt.start (xs : List Int) : WordAt xs 0 [] [] := ⟨Nat.le_refl _, Nat.le_refl _, .inl ⟨Nat.zero_le _, by simp⟩⟩
theorem WordAt.ends {xs : List Int} {k : Nat} {P : List Int} {L : List (List Int)} (h : WordAt xs k P L) (hk : xs.length < k) : L = wordsL [] xs := by
  rcases h.told with ⟨h1, _⟩ | ⟨_, h2⟩
  · omega
  · exact h2
theorem WordAt.last {xs : List Int} {P : List Int} {L : List (List Int)} (h : WordAt xs xs.length P L) : WordAt xs (xs.length + 1) [] (if P = [] then L else L ++ [P]) := by
  have h1 := h.len
  refine ⟨?_, by simp, .inr ⟨rfl, ?_⟩⟩
  · split
    · omega
    · rw [List.length_append]; simp; omega
  · rcases h.told with ⟨_, e⟩ | ⟨e, _⟩
    · rw [List.drop_length, wordsL] at e
      rw [← e]
      split
      · simp
      · rfl
    · omega
theorem drop_at {xs : List Int} {k : Nat} (hk : k < xs.length) : xs.drop k = xs.getD k 0 :: xs.drop (k + 1) := by
  rw [List.drop_eq_getElem_cons hk, List.getD_eq_getElem?_getD, List.getElem?_eq_getElem hk]
  rfl
theorem WordAt.blank {xs : List Int} {k : Nat} {P : List Int} {L : List (List Int)} (h : WordAt xs k P L) (hk : k < xs.length) (hx : xs.getD k 0 = 32 ∨ xs.getD k 0 = 10) : WordAt xs (k + 1) [] (if P = [] then L else L ++ [P]) := by
  have h1 := h.len
  refine ⟨?_, by simp, .inl ⟨by omega, ?_⟩⟩
  · split
    · omega
    · rw [List.length_append]; simp; omega
  · rcases h.told with ⟨_, e⟩ | ⟨e, _⟩
    · rw [drop_at hk, wordsL, if_pos hx] at e
      rw [← e]
      split
      · rfl
      · rw [List.append_assoc]; rfl
    · omega
theorem WordAt.next {xs : List Int} {k : Nat} {P : List Int} {L : List (List Int)} (h : WordAt xs k P L) (hk : k < xs.length) (hx : ¬ (xs.getD k 0 = 32 ∨ xs.getD k 0 = 10)) : WordAt xs (k + 1) (P ++ [xs.getD k 0]) L := by
  have h1 := h.len
  have h2 := h.pl
  refine ⟨by omega, by rw [List.length_append]; simp; omega, .inl ⟨by omega, ?_⟩⟩
  rcases h.told with ⟨_, e⟩ | ⟨e, _⟩
  · rw [drop_at hk, wordsL, if_neg hx] at e
    exact e
  · omega
theorem str_empty (P : List Int) : (strOfNums P).toList.isEmpty = decide (P = []) := by
  have e : (strOfNums P).toList = Lib.bytesOf P := Lib.strOfNums_toList P
  rw [e]
  cases P <;> simp [Lib.bytesOf]
set_option maxRecDepth 100000 in
set_option maxHeartbeats 4000000 in
theorem Words_any (xs : List Int) (ho : Octs xs) (hs : xs.length ≤ 1100000) (w : World) : Calls Tryd.prog 33 #[.string (strOfNums xs)] w fun e w' => ∃ v, e = .returned v ∧ StrOwn w' w.heap.size v (wordsL [] xs) ∧ Kept [] w w' := by
  have hsz := strOfNums_size xs
  have HIX : Hid (∀ k, k < xs.length → ∀ W, (Instr.index 9 (.string (strOfNums xs)) (.int .i64 k)).run Tryd.prog W = .ok (.int .u8 (xs.getD k 0)) W) := fun k hk W => str_ix xs ho k hk W
  have HSU : Hid (∀ k, k < xs.length → (strOfNums xs).extract k (k + 1) = strOfNums [xs.getD k 0]) := fun k hk => by
    rw [str_sub xs k (k + 1)]
    congr 1
    rw [List.drop_take, drop_at hk]
    simp
  clear ho
  generalize strOfNums xs = S at *
  go_enter Tryd.func33, Tryd.ntmps33
  go_wp2
  go_loopw [3, 4, 5] (fun s3 s4 s5 wr => ∃ (k : Nat) (P : List Int) (L : List (List Int)) (u : Value), u = s3 ∧ s4 = .string (strOfNums P) ∧ s5 = .int .i64 k ∧ k ≤ xs.length + 1 ∧ L.length ≤ k ∧ P.length ≤ k ∧ Hid (WordAt xs k P L) ∧ Hid (StrOwn wr w.heap.size u L) ∧ Hid (Kept [] w wr)) (fun _ _ s5 _ => xs.length + 1 - (intOf s5).toNat)
  case atStart => exact ⟨0, [], [], _, rfl, rfl, rfl, Nat.zero_le _, Nat.le_refl _, Nat.le_refl _, WordAt.start xs, World.ownsRow_nil _ _ _ _, Kept.refl _ _⟩
  case round =>
    obtain ⟨k, P, L, u, rfl, rfl, rfl, hk, hLk, hPk, HC, HO, HK⟩ := hrel
    have hml : (L.map fun p => Value.string (strOfNums p)).length ≤ 2000000 := by rw [List.length_map]; omega
    have hbs : w.heap.size ≤ wr.heap.size := HK.out.size
    have HB : Hid (∀ x, u.ownBlock = some x → w.heap.size ≤ x) := fun x hx => (World.ownsRow.lt HO.out x hx).1
    have HO1 : Hid (∀ o, (wr.alloc o).ownsRow w.heap.size 9 1 u (L.map fun p => Value.string (strOfNums p)).length (L.map fun p => Value.string (strOfNums p))) := fun o => by
      rw [List.length_map]
      exact HO.out.on ((Kept.refl [] wr).alloc _)
    have HK1 : Hid (∀ o, Kept [] w (wr.alloc o)) := fun o => HK.out.alloc _
    have HC1 : Hid (∀ p : List Int, (wr.alloc (.cells #[.string (strOfNums p)] 9)).cell? ⟨wr.heap.size, 0, none⟩ = some (.string (strOfNums p))) := fun p => by
      rw [cell_of_row _ _ _ _ _ _ (heap_alloc_new wr _)]
      rfl
    have HAP : Hid (∀ (W : World) (v : Value) (p : List Int), W.ownsRow w.heap.size 9 1 v ((L.map fun p => Value.string (strOfNums p)) ++ [Value.string (strOfNums p)]).length ((L.map fun p => Value.string (strOfNums p)) ++ [Value.string (strOfNums p)]) → StrOwn W w.heap.size v (L ++ [p])) := fun W v p h => by
      unfold StrOwn
      rw [List.map_append, List.length_append]
      rw [List.length_append, List.length_map] at h
      exact h
    have hse := str_empty P
    by_cases hgt : xs.length < k
    · have t0 : decide ((k : Int) ≤ (xs.length : Int)) = false := by simp; omega
      have HL : Hid (L = wordsL [] xs) := HC.out.ends hgt
      go_wp2
      go_ret
      refine ⟨_, rfl, ?_, HK.out⟩
      rw [← HL.out]
      exact HO.out
    · have t0 : decide ((k : Int) ≤ (xs.length : Int)) = true := by simp; omega
      by_cases heq : k = xs.length
      · have t1 : ((k : Int) == (xs.length : Int)) = true := beq_iff_eq.2 (by omega)
        have HN : Hid (WordAt xs (k + 1) [] (if P = [] then L else L ++ [P])) := by
          have h := HC.out
          rw [heq] at h
          have h2 := h.last
          rw [← heq] at h2
          exact h2
        clear heq
        by_cases hp : P = []
        · have HN2 : Hid (WordAt xs (k + 1) [] L) := by
            have h := HN.out
            rw [if_pos hp] at h
            exact h
          clear hse HN HC HC1 HAP hPk
          subst hp
          have e0 : strOfNums [] = (⟨#[]⟩ : ByteArray) := by kernel_rfl
          rw [e0]
          go_wp2
          go_roundw
          case rel => exact ⟨k + 1, [], L, _, rfl, by rw [e0], by go_num, by omega, by omega, by simp, HN2, HO, HK⟩
          case measure => simp [intOf]; omega
        · have hse' : (strOfNums P).toList.isEmpty = false := by rw [hse]; exact decide_eq_false hp
          have HN2 : Hid (WordAt xs (k + 1) [] (L ++ [P])) := by
            have h := HN.out
            rw [if_neg hp] at h
            exact h
          clear hse hp HN HC
          go_wp2_with (first
            | (at_builtin; refine wpList_append_big rfl (.tmp 30) (.tmp 32) 23 9 (.string ⟨#[]⟩) 16 Tryd.underlying23 Tryd.info_str rfl rfl rfl (HO1.out _) rfl (HC1.out P) rfl hml (by decide) (by simp; omega) ?_
               intro v2 w2 h2 k2 _
               have HO2 : Hid (StrOwn w2 w.heap.size v2 (L ++ [P])) := HAP.out _ _ _ h2
               have hq : ∀ y, y ∈ u.ownBlock.toList → w.heap.size ≤ y := fun y hy => HB.out y (by simpa using hy)
               have HK2 : Hid (Kept [] w w2) := (HK1.out _).trans k2 (fun y hy => Or.inr (hq y hy))
               clear h2 k2 hq))
          go_roundw
          case rel => exact ⟨k + 1, [], L ++ [P], _, rfl, rfl, by go_num, by omega, by simp; omega, by simp, HN2, HO2, HK2⟩
          case measure => simp [intOf]; omega
      · have t1 : ((k : Int) == (xs.length : Int)) = false := beq_eq_false_iff_ne.2 (by omega)
        have hlt : k < xs.length := by omega
        have hix := HIX.out k hlt
        have hsu := HSU.out k hlt
        have k0 : (0 : Int) ≤ (k : Int) := by omega
        have k1 : (k : Int) + 1 ≤ (xs.length : Int) := by omega
        have k2 : (k : Int) < (xs.length : Int) := by omega
        by_cases hx : xs.getD k 0 = 32
        · have t2 : (xs.getD k 0 == 32) = true := by simpa using hx
          have HN : Hid (WordAt xs (k + 1) [] (if P = [] then L else L ++ [P])) := HC.out.blank hlt (.inl hx)
          clear heq hx hsu
          generalize xs.getD k 0 = x at *
          by_cases hp : P = []
          · have HN2 : Hid (WordAt xs (k + 1) [] L) := by
              have h := HN.out
              rw [if_pos hp] at h
              exact h
            clear hse HN HC HC1 HAP hPk
            subst hp
            have e0 : strOfNums [] = (⟨#[]⟩ : ByteArray) := by kernel_rfl
            rw [e0]
            go_wp2
            go_roundw
            case rel => exact ⟨k + 1, [], L, _, rfl, by rw [e0], by go_num, by omega, by omega, by simp, HN2, HO, HK⟩
            case measure => simp [intOf]; omega
          · have hse' : (strOfNums P).toList.isEmpty = false := by rw [hse]; exact decide_eq_false hp
            have HN2 : Hid (WordAt xs (k + 1) [] (L ++ [P])) := by
              have h := HN.out
              rw [if_neg hp] at h
              exact h
            clear hse hp HN HC
            go_wp2_with (first
              | (at_builtin; refine wpList_append_big rfl (.tmp 30) (.tmp 32) 23 9 (.string ⟨#[]⟩) 16 Tryd.underlying23 Tryd.info_str rfl rfl rfl (HO1.out _) rfl (HC1.out P) rfl hml (by decide) (by simp; omega) ?_
                 intro v2 w2 h2 k2 _
                 have HO2 : Hid (StrOwn w2 w.heap.size v2 (L ++ [P])) := HAP.out _ _ _ h2
                 have hq : ∀ y, y ∈ u.ownBlock.toList → w.heap.size ≤ y := fun y hy => HB.out y (by simpa using hy)
                 have HK2 : Hid (Kept [] w w2) := (HK1.out _).trans k2 (fun y hy => Or.inr (hq y hy))
                 clear h2 k2 hq))
            go_roundw
            case rel => exact ⟨k + 1, [], L ++ [P], _, rfl, rfl, by go_num, by omega, by simp; omega, by simp, HN2, HO2, HK2⟩
            case measure => simp [intOf]; omega
        · have t2 : (xs.getD k 0 == 32) = false := by simpa using hx
          by_cases hy : xs.getD k 0 = 10
          · have t3 : (xs.getD k 0 == 10) = true := by simpa using hy
            have HN : Hid (WordAt xs (k + 1) [] (if P = [] then L else L ++ [P])) := HC.out.blank hlt (.inr hy)
            clear heq hx hy hsu
            generalize xs.getD k 0 = x at *
            by_cases hp : P = []
            · have HN2 : Hid (WordAt xs (k + 1) [] L) := by
                have h := HN.out
                rw [if_pos hp] at h
                exact h
              clear hse HN HC HC1 HAP hPk
              subst hp
              have e0 : strOfNums [] = (⟨#[]⟩ : ByteArray) := by kernel_rfl
              rw [e0]
              go_wp2
              go_roundw
              case rel => exact ⟨k + 1, [], L, _, rfl, by rw [e0], by go_num, by omega, by omega, by simp, HN2, HO, HK⟩
              case measure => simp [intOf]; omega
            · have hse' : (strOfNums P).toList.isEmpty = false := by rw [hse]; exact decide_eq_false hp
              have HN2 : Hid (WordAt xs (k + 1) [] (L ++ [P])) := by
                have h := HN.out
                rw [if_neg hp] at h
                exact h
              clear hse hp HN HC
              go_wp2_with (first
                | (at_builtin; refine wpList_append_big rfl (.tmp 30) (.tmp 32) 23 9 (.string ⟨#[]⟩) 16 Tryd.underlying23 Tryd.info_str rfl rfl rfl (HO1.out _) rfl (HC1.out P) rfl hml (by decide) (by simp; omega) ?_
                   intro v2 w2 h2 k2 _
                   have HO2 : Hid (StrOwn w2 w.heap.size v2 (L ++ [P])) := HAP.out _ _ _ h2
                   have hq : ∀ y, y ∈ u.ownBlock.toList → w.heap.size ≤ y := fun y hy => HB.out y (by simpa using hy)
                   have HK2 : Hid (Kept [] w w2) := (HK1.out _).trans k2 (fun y hy => Or.inr (hq y hy))
                   clear h2 k2 hq))
              go_roundw
              case rel => exact ⟨k + 1, [], L ++ [P], _, rfl, rfl, by go_num, by omega, by simp; omega, by simp, HN2, HO2, HK2⟩
              case measure => simp [intOf]; omega
          · have t3 : (xs.getD k 0 == 10) = false := by simpa using hy
            have HN : Hid (WordAt xs (k + 1) (P ++ [xs.getD k 0]) L) := HC.out.next hlt (fun h => h.elim hx hy)
            have hzp := strOfNums_size P
            have hz1 := strOfNums_size [xs.getD k 0]
            have HCT : Hid (strOfNums P ++ strOfNums [xs.getD k 0] = strOfNums (P ++ [xs.getD k 0])) := str_cat _ _
            have hlen1 : [xs.getD k 0].length = 1 := rfl
            rw [hlen1] at hz1
            clear heq hx hy hse HC hlen1
            generalize strOfNums [xs.getD k 0] = SX at *
            generalize strOfNums P = SP at *
            generalize xs.getD k 0 = x at *
            go_wp2
            go_roundw
            case rel => exact ⟨k + 1, P ++ [x], L, _, rfl, by show Value.string _ = Value.string _; rw [HCT.out], by go_num, by omega, by omega, by simp; omega, HN, HO, HK⟩
            case measure => simp [intOf]; omega
end Go.Proofs.YtbdkalicgpdbkaaDoor
