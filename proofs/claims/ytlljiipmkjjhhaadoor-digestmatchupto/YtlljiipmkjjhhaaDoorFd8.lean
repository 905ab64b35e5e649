/-
  A list of ids of one's own, sorted, as it lies in its block; a sorted list without equal neighbours is sorted, each once.
-/
import Derived.Test.YtlljiipmkjjhhaaDoorFd7
namespace Go.Proofs.YtlljiipmkjjhhaaDoor
open Go.RowKit Go.Shelf Go.Lib Go.Sort

theorem ddL_sorted (A : List (List Int)) : A.Pairwise (fun a c => ¬ cmpB c a < 0) → SortedIds (ddL A) ∧ ∀ id, id ∈ ddL A ↔ id ∈ A := by
  have key : ∀ n (A : List (List Int)), A.length = n → A.Pairwise (fun a c => ¬ cmpB c a < 0) → SortedIds (ddL A) ∧ ∀ id, id ∈ ddL A ↔ id ∈ A := fun n => by
    induction n with
    | zero =>
      intro A hn _
      obtain rfl := List.eq_nil_of_length_eq_zero hn
      exact ⟨List.Pairwise.nil, fun _ => Iff.rfl⟩
    | succ n ih =>
      intro A hn hp
      rcases List.eq_nil_or_concat A with rfl | ⟨C, x, rfl⟩
      · cases hn
      · rw [List.concat_eq_append] at hn hp ⊢
        rw [List.length_append, List.length_singleton] at hn
        obtain ⟨hp1, _, hp2⟩ := List.pairwise_append.1 hp
        obtain ⟨hs, hm⟩ := ih C (by omega) hp1
        rw [ddL_snoc]
        by_cases he : (ddL C).getLast? = some x
        · rw [if_pos he]
          refine ⟨hs, fun id => ?_⟩
          rw [hm, List.mem_append, List.mem_singleton]
          refine ⟨Or.inl, fun h => h.elim (fun h => h) (fun e => ?_)⟩
          rw [e]
          exact (hm x).1 (List.mem_of_getLast? he)
        · rw [if_neg he]
          refine ⟨?_, fun id => by rw [List.mem_append, List.mem_append, hm]⟩
          refine List.pairwise_append.2 ⟨hs, List.pairwise_singleton _ _, fun a ha b hb => ?_⟩
          rw [List.mem_singleton.1 hb]
          rcases cmpB_ge (hp2 a ((hm a).1 ha) x (by simp)) with h | h
          · exact h
          · exfalso
            subst h
            rcases List.eq_nil_or_concat (ddL C) with h0 | ⟨E, y, h0⟩
            · rw [h0] at ha; cases ha
            · rw [List.concat_eq_append] at h0
              rw [h0] at ha he
              rw [List.getLast?_append] at he
              simp only [List.getLast?_singleton, Option.some_or, Option.some.injEq] at he
              have hy : y ∈ C := (hm y).1 (by rw [h0]; simp)
              rcases List.mem_append.1 ha with h1 | h1
              · have h2 : cmpB x y < 0 := (List.pairwise_append.1 (show (E ++ [y]).Pairwise _ by rw [← h0]; exact hs)).2.2 x h1 y (by simp)
                exact hp2 y hy x (by simp) h2
              · exact he (List.mem_singleton.1 h1).symm
  exact key A.length A rfl
theorem sortK_blk {α : Type} [Inhabited α] (enc : α → List Value) (k : Nat) (w : World) (blk n : Nat) (d : Array α) (os : Array Obj) {c : Array Value} {t : TypeId} {fr : Nat × Nat} (h : w.heap[blk]? = some (.cells c t fr)) : ∃ c', (sortWorldK enc k w blk 0 n d os).heap[blk]? = some (.cells c' t fr) ∧ c'.size = c.size := by
  have hlt := lt_of_block h
  refine ⟨putCells id 0 (flatK enc k d) c, ?_, by simp [putCells]⟩
  show (grow (putRow id (Sort.ahead w n) blk 0 (flatK enc k d)) os).heap[blk]? = _
  have e : (putRow id (Sort.ahead w n) blk 0 (flatK enc k d)).heap.size = w.heap.size := by simp [putRow, mapBlock, Sort.ahead]
  rw [heap_grow_old _ _ (by rw [e]; exact hlt)]
  show (w.heap.modify blk (onCells _))[blk]? = _
  rw [Array.getElem?_modify, if_pos rfl, h]
  rfl
theorem SortIds_in {w : World} {B : Nat} {v : Value} {ids : List (List Int)} (hown : IdOwn w B v ids) (hg : ∀ id, id ∈ ids → GoodID id) (hl : ids.length ≤ 1000000) (hne : ids ≠ []) :
    ∃ g cap, v = .slice (some ⟨g, 0, none⟩) ids.length cap ∧ B ≤ g ∧ Calls Tryd.prog 20 #[v, .func (.func 21) #[] #[]] w fun e w' => e = .returned (.tuple #[]) ∧ ∃ M, M.Perm ids ∧ M.Pairwise (fun a c => ¬ cmpB c a < 0) ∧ IdIn w' g cap M ∧ Kept [g] w w' := by
  obtain ⟨L, rfl⟩ := ids_lift ids hg
  have hLn : (L.map (·.xs)).length = L.length := List.length_map _
  have hv : ∃ g cap, v = .slice (some ⟨g, 0, none⟩) L.length cap ∧ B ≤ g ∧ L.length ≤ cap ∧ ∃ c, w.heap[g]? = some (.cells c 24 (0, 0)) ∧ c.size = cap * 32 := by
    obtain ⟨_, ⟨_, h⟩ | ⟨g, cap, c, h, h1, hc, h2, _, h3, _⟩⟩ := hown
    · exact absurd (List.eq_nil_of_length_eq_zero h) hne
    · rw [hLn] at h h2
      exact ⟨g, cap, h, h1, h2, c, hc, h3⟩
  obtain ⟨g, cap, rfl, hB, hcap, c0, hc0, hcs⟩ := hv
  have hown2 : w.ownsRow B 24 32 (.slice (some ⟨g, 0, none⟩) L.length cap) L.length (L.map encId).flatten := by
    have h := hown
    unfold IdOwn at h
    rw [hLn, List.map_map] at h
    exact h
  obtain ⟨hH, c, hc⟩ := holdsK_own encId_len (by decide) hown2
  have hs := AnyQ.slices_SortFunc Tryd.sortId 32 Tryd.aggId Tryd.sizeId encId encId_len encId_one (fun x y => cmpB x.xs y.xs) idSWO 21 #[] g 0 cap L.toArray w
    (enters_of Tryd.func21 (by kernel_rfl) rfl) (idLays g 0 L.toArray.size w) hH (lt_of_block hc) (by rw [List.size_toArray]; omega)
  rw [List.size_toArray] at hs
  refine ⟨g, cap, by rw [hLn], hB, hs.mono ?_⟩
  rintro e w' ⟨rfl, d', m, os, hp, hso, rfl⟩
  have hperm : d'.toList.Perm L := by have := perm_of_in (d := L.toArray) (d' := d') (by rw [List.size_toArray]; exact hp); simpa using this
  have hrows := rows_of_holdsK encId_len (holdsK_sortWorldK_c (enc := encId) (k := 32) (w := w) (blk := g) (off := 0) L.toArray d' m os hH (lt_of_block hc) hp.1)
  have h1 := sorted_of_in (d := d') (n := L.length) (by have := hp.1; simpa using this.symm) hso
  have hlen : (d'.toList.map (·.xs)).length = L.length := by rw [List.length_map]; exact hperm.length_eq
  obtain ⟨c', hc', hcs'⟩ := sortK_blk encId 32 w g m d' os hc0
  refine ⟨rfl, d'.toList.map (·.xs), hperm.map _, ?_, ⟨⟨c', hc', by rw [hcs']; exact hcs⟩, by rw [hlen]; exact hcap, fun id hid => ?_, fun i xs hi => ?_⟩, sortK_kept encId 32 w g m d' os⟩
  · rw [List.pairwise_map]
    refine h1.imp fun {a c} hh => ?_
    simpa only [ltOf, decide_eq_false_iff_not] using hh
  · obtain ⟨r, _, rfl⟩ := List.mem_map.1 hid
    exact r.good
  · rw [List.getElem?_map] at hi
    cases hx : d'.toList[i]? with
    | none => rw [hx] at hi; cases hi
    | some x =>
      rw [hx] at hi
      simp only [Option.map_some, Option.some.injEq] at hi
      subst hi
      exact hrows i x hx
end Go.Proofs.YtlljiipmkjjhhaaDoor
