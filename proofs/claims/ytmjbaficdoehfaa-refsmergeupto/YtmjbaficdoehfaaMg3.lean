/-
  Lists of stamps in memory; such a list of one's own SORTED by slices.SortFunc.
-/
import Derived.Test.YtmjbaficdoehfaaMg2
import Derived.Test.YtmjbaficdoehfaaSlM
import Derived.Test.YtmjbaficdoehfaaSoK
import Derived.Test.YtmjbaficdoehfaaAppH
import Derived.Shelf.SlSortCmp.WholeK
import Derived.Shelf.SlSortCmp.NoneTotal
namespace Go.Proofs.Ytmjbaficdoehfaa
open Go.RowKit Go.Shelf Go.Lib Go.Sort

/-- A list of stamps lies so. -/
def StampsAt (w : World) (v : Value) (L : List StampE) : Prop := RowsAt w v 34 (L.map StampE.row)
/-- A list of stamps of one's own. -/
def StampOwn (w : World) (B : Nat) (v : Value) (L : List StampE) : Prop := w.ownsRow B 32 34 v L.length (L.map StampE.row).flatten
theorem srows_len {L : List StampE} : ∀ r, r ∈ L.map StampE.row → r.length = 34 := fun r hr => by
  obtain ⟨x, _, rfl⟩ := List.mem_map.1 hr
  exact x.row_len
theorem srows_one {L : List StampE} : ∀ r, r ∈ L.map StampE.row → ∀ u, u ∈ r → u.oneCell' = true := fun r hr u hu => by
  obtain ⟨x, _, rfl⟩ := List.mem_map.1 hr
  exact x.row_one u hu
theorem StampsAt.kept {w w' : World} {v : Value} {L : List StampE} (h : StampsAt w v L) (k : Kept [] w w') : StampsAt w' v L := RowsAt.keep h k (fun _ _ _ => by simp)
theorem StampOwn.at {w : World} {B : Nat} {v : Value} {L : List StampE} (h : StampOwn w B v L) (hl : L.length ≤ 140737488351232) : StampsAt w v L :=
  ownsK_rows (by decide) srows_len (by rw [List.length_map]; exact h) (by rw [List.length_map]; exact hl)
theorem StampOwn.on {w w' : World} {B : Nat} {v : Value} {L : List StampE} {S : List Nat} (h : StampOwn w B v L) (q : Kept S w w') (hn : ∀ g, v.ownBlock = some g → g ∉ S) : StampOwn w' B v L := ownsK_on h q hn
theorem StampOwn.low {w : World} {B B' : Nat} {v : Value} {L : List StampE} (h : StampOwn w B v L) (hb : B' ≤ B) : StampOwn w B' v L := owns_low h hb
theorem StampOwn.form {w : World} {B : Nat} {v : Value} {L : List StampE} (h : StampOwn w B v L) : (L = [] ∧ v = .slice none 0 0) ∨ ∃ g cap cur, v = .slice (some ⟨g, 0, none⟩) L.length cap ∧ B ≤ g ∧ w.heap[g]? = some (.cells cur 32 (0, 0)) ∧ L.length ≤ cap ∧ cap ≤ maxLen ∧ cur.size = cap * 34 ∧ cur.toList.take (L.length * 34) = (L.map StampE.row).flatten := by
  obtain ⟨_, ⟨h1, h2⟩ | h⟩ := h
  · exact .inl ⟨List.eq_nil_of_length_eq_zero h2, h1⟩
  · exact .inr h
theorem StampOwn.nil (w : World) (B : Nat) : StampOwn w B (.slice none 0 0) [] := ⟨rfl, Or.inl ⟨rfl, rfl⟩⟩
/-- What lies so may be written to, whatever stands behind it. -/
theorem StampOwn.of {w : World} {B g cap : Nat} {L : List StampE} {cur : Array Value} (hB : B ≤ g) (hg : w.heap[g]? = some (.cells cur 32 (0, 0))) (hc : L.length ≤ cap) (hm : cap ≤ maxLen) (hs : cur.size = cap * 34)
    (hr : ∀ i x, L[i]? = some x → w.rangeAt g (i * 34) x.row) : StampOwn w B (.slice (some ⟨g, 0, none⟩) L.length cap) L := by
  have hfl : (L.map StampE.row).flatten.length = L.length * 34 := by rw [flat_len 34 _ srows_len, List.length_map]
  refine ⟨hfl, Or.inr ⟨g, cap, cur, rfl, hB, hg, hc, hm, hs, ?_⟩⟩
  apply List.ext_getElem?
  intro j
  by_cases hj : j < L.length * 34
  · rw [List.getElem?_take_of_lt hj, flat_bind 34 (by decide) _ srows_len, List.getElem?_map]
    have hd : j / 34 < L.length := Nat.div_lt_of_lt_mul (by omega)
    rw [List.getElem?_eq_getElem hd, Option.map_some, Option.bind_some]
    have h1 := hr (j / 34) _ (List.getElem?_eq_getElem hd) (j % 34) ((L[j / 34]).row[j % 34]'(by rw [StampE.row_len]; omega)) (List.getElem?_eq_getElem _)
    rw [cell_of_row _ _ _ _ _ _ hg, show j / 34 * 34 + j % 34 = j by omega] at h1
    rw [Array.getElem?_toList, h1]
    exact (List.getElem?_eq_getElem _).symm
  · rw [List.getElem?_eq_none (by rw [List.length_take]; omega), List.getElem?_eq_none (by omega)]
theorem StampOwn.range {w : World} {B g cap : Nat} {L : List StampE} (h : StampOwn w B (.slice (some ⟨g, 0, none⟩) L.length cap) L) (i : Nat) (x : StampE) (hx : L[i]? = some x) : w.rangeAt g (i * 34) x.row := by
  rcases h.form with ⟨_, e⟩ | ⟨g', cap', cur, e, _, hg, hc, _, hs, ht⟩
  · cases e
  · injection e with e1 _ e3
    injection e1 with e1
    injection e1 with e1 _ _
    subst e1 e3
    intro j v hv
    have hi : i < L.length := (List.getElem?_eq_some_iff.1 hx).1
    have hj : j < 34 := by have := (List.getElem?_eq_some_iff.1 hv).1; rwa [x.row_len] at this
    rw [cell_of_row _ _ _ _ _ _ hg, ← Array.getElem?_toList, ← List.getElem?_take_of_lt (j := L.length * 34) (by omega), ht, flat_bind 34 (by decide) _ srows_len, List.getElem?_map, show (i * 34 + j) / 34 = i by omega, hx, show (i * 34 + j) % 34 = j by omega]
    exact hv

theorem Try.aggStamp (w : World) : (isAgg 32).run Try.prog w = .ok true w := Try.isAgg32 w
theorem Try.sizeStamp (w : World) : (Go.sizeOf 32).run Try.prog w = .ok 34 w := Try.sizeOf32 w
theorem stampLays (blk off size : Nat) (w : World) : CmpLays Try.prog 12 #[] StampE.row 34 cmpS blk off size w :=
  fun _ _ _ _ x y => cmpStamps_any x y _
theorem stampSWO : SWO (ltOf cmpS) where
  irrefl x := by simp only [ltOf, decide_eq_false_iff_not]; exact cmpS_self x
  trans x y z h1 h2 := by
    simp only [ltOf, decide_eq_true_eq] at *
    exact cmpS_trans h1 h2
  ntrans x y z h1 h2 := by
    simp only [ltOf, decide_eq_false_iff_not] at *
    intro h
    rcases cmpS_ge h1 with g | g
    · exact h2 (cmpS_trans g h)
    · exact h2 (g ▸ h)
theorem size_putCells {α : Type} [Inhabited α] (enc : α → Value) (off : Nat) (d : Array α) (c : Array Value) : (putCells enc off d c).size = c.size := by simp [putCells]
theorem sortK_cells {α : Type} [Inhabited α] (enc : α → List Value) (k : Nat) (w : World) (blk n : Nat) (d : Array α) (os : Array Obj) {c : Array Value} {t : TypeId} {fr : Nat × Nat} (h : w.heap[blk]? = some (.cells c t fr)) : (sortWorldK enc k w blk 0 n d os).heap[blk]? = some (.cells (putCells id 0 (flatK enc k d) c) t fr) := by
  have hlt := lt_of_block h
  show (grow (putRow id (Sort.ahead w n) blk 0 (flatK enc k d)) os).heap[blk]? = _
  have e : (putRow id (Sort.ahead w n) blk 0 (flatK enc k d)).heap.size = w.heap.size := by simp [putRow, mapBlock, Sort.ahead]
  rw [Go.Sort.heap_grow_old _ _ (by rw [e]; exact hlt)]
  show (w.heap.modify blk (onCells _))[blk]? = _
  rw [Array.getElem?_modify, if_pos rfl, h]
  rfl
/-- A list of stamps of one's own, sorted. -/
theorem SortStamps_any {w : World} {B : Nat} {v : Value} {L : List StampE} (hown : StampOwn w B v L) (hl : L.length ≤ 10000000) :
    Calls Try.prog 11 #[v, .func (.func 12) #[] #[]] w fun e w' => e = .returned (.tuple #[]) ∧ ∃ M, M.Perm L ∧ M.Pairwise (fun a c => ¬ cmpS c a < 0) ∧ StampOwn w' B v M ∧ Kept v.ownBlock.toList w w' := by
  rcases hown.form with ⟨rfl, rfl⟩ | ⟨g, cap, cur, rfl, hB, hg, hcap, hm, hs, _⟩
  · refine (AnyF.slices_SortFunc_none Try.sortStamp none 0 _ w).mono fun e w' ⟨he, hw⟩ => ⟨he, [], List.Perm.nil, List.Pairwise.nil, by rw [hw]; exact StampOwn.nil w B, ?_⟩
    rw [hw]
    exact Kept.refl _ _
  · obtain ⟨hH, c, hc⟩ := holdsK_own StampE.row_len (by decide) hown
    have hsr := AnyQ.slices_SortFunc Try.sortStamp 34 Try.aggStamp Try.sizeStamp StampE.row StampE.row_len StampE.row_one cmpS stampSWO 12 #[] g 0 cap L.toArray w
      (enters_of Try.func12 (by kernel_rfl) rfl) (stampLays g 0 L.toArray.size w) hH (lt_of_block hc) (by rw [List.size_toArray]; omega)
    rw [List.size_toArray] at hsr
    refine hsr.mono ?_
    rintro e w' ⟨rfl, d', m, os, hp, hso, rfl⟩
    have hperm : d'.toList.Perm L := by have := perm_of_in (d := L.toArray) (d' := d') (by rw [List.size_toArray]; exact hp); simpa using this
    have hrows := rows_of_holdsK StampE.row_len (holdsK_sortWorldK_c (enc := StampE.row) (k := 34) (w := w) (blk := g) (off := 0) L.toArray d' m os hH (lt_of_block hc) hp.1)
    have h1 := sorted_of_in (d := d') (n := L.length) (by have := hp.1; simpa using this.symm) hso
    have ho := StampOwn.of (w := sortWorldK StampE.row 34 w g 0 m d' os) (L := d'.toList) (cap := cap) hB (sortK_cells StampE.row 34 w g m d' os hg) (by rw [hperm.length_eq]; exact hcap) hm (by rw [size_putCells]; exact hs) hrows
    rw [hperm.length_eq] at ho
    refine ⟨rfl, d'.toList, hperm, h1.imp fun {a c} hh => ?_, ho, ?_⟩
    · simpa only [ltOf, decide_eq_false_iff_not] using hh
    · exact sortK_kept StampE.row 34 w g m d' os
end Go.Proofs.Ytmjbaficdoehfaa
