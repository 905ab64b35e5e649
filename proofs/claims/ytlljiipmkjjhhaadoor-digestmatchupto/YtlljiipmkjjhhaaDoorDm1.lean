/-
  PLAIN: two lists in order put together; satchelref0.SortIDs of fewer than two.
-/
import Derived.Test.YtlljiipmkjjhhaaDoorDm0
import Derived.Test.YtlljiipmkjjhhaaDoorEqAn
import Derived.Test.YtlljiipmkjjhhaaDoorBk0
namespace Go.Proofs.YtlljiipmkjjhhaaDoor
open Go.RowKit

theorem cmpB_pos : ∀ xs ys : List Int, 0 < cmpB xs ys → cmpB ys xs < 0
  | [], [], h => by simp [cmpB] at h
  | [], _ :: _, h => by simp [cmpB] at h
  | _ :: _, [], _ => by simp [cmpB]
  | a :: x, b :: y, h => by
    unfold cmpB at h ⊢
    by_cases h1 : a < b
    · rw [if_pos h1] at h; omega
    · rw [if_neg h1] at h
      by_cases h2 : b < a
      · rw [if_pos h2]; omega
      · rw [if_neg h2] at h
        rw [if_neg h2, if_neg h1]
        exact cmpB_pos x y h
theorem cmpB_le {xs ys : List Int} (h : cmpB xs ys ≤ 0) : cmpB xs ys < 0 ∨ xs = ys := by
  by_cases h1 : cmpB xs ys < 0
  · exact .inl h1
  · right
    refine cmpB_total xs ys h1 fun h2 => ?_
    have h3 := cmpB_swap ys xs h2
    have : cmpB xs ys = 0 := by omega
    have key : ∀ xs ys : List Int, cmpB xs ys = 0 → xs = ys := by
      intro xs
      induction xs with
      | nil => intro ys h; cases ys with
        | nil => rfl
        | cons => simp [cmpB] at h
      | cons a x ih => intro ys h; cases ys with
        | nil => simp [cmpB] at h
        | cons b y =>
          unfold cmpB at h
          split at h
          · omega
          · split at h
            · omega
            · rw [show a = b by omega, ih y h]
    rw [key xs ys this] at h2
    exact cmpB_self ys h2
/-- How far two lists in order have been put together. -/
structure MrgTo (a b : List (List Int)) (i j : Nat) (out : List (List Int)) : Prop where
  ord : SortedIds out
  sepa : ∀ x, x ∈ out → ∀ y, y ∈ a.drop i → cmpB x y < 0
  sepb : ∀ x, x ∈ out → ∀ y, y ∈ b.drop j → cmpB x y < 0
  mem : ∀ x, x ∈ out ↔ x ∈ a.take i ∨ x ∈ b.take j
theorem MrgTo.start (a b : List (List Int)) : MrgTo a b 0 0 [] := ⟨List.Pairwise.nil, (fun x h => by cases h), (fun x h => by cases h), fun x => by simp⟩
theorem sorted_snoc {out : List (List Int)} {x : List Int} (h : SortedIds out) (hx : ∀ y, y ∈ out → cmpB y x < 0) : SortedIds (out ++ [x]) := by
  refine List.pairwise_append.2 ⟨h, List.pairwise_singleton _ _, fun y hy z hz => ?_⟩
  rw [List.mem_singleton.1 hz]
  exact hx y hy
theorem sorted_drop {a : List (List Int)} (h : SortedIds a) {i : Nat} {x : List Int} (hx : a[i]? = some x) : a.drop i = x :: a.drop (i + 1) ∧ ∀ y, y ∈ a.drop (i + 1) → cmpB x y < 0 := by
  obtain ⟨hi, rfl⟩ := List.getElem?_eq_some_iff.1 hx
  have e := List.drop_eq_getElem_cons hi
  refine ⟨e, fun y hy => ?_⟩
  have h2 := List.Pairwise.drop (i := i) h
  rw [e] at h2
  exact (List.pairwise_cons.1 h2).1 y hy
theorem take_snocD {a : List (List Int)} {i : Nat} {x : List Int} (hx : a[i]? = some x) : a.take (i + 1) = a.take i ++ [x] := by rw [List.take_add_one, hx]; rfl
/-- The first one's next, which is below all of the second's. -/
theorem MrgTo.left {a b out : List (List Int)} {i j : Nat} (h : MrgTo a b i j out) (ha : SortedIds a) {x : List Int} (hx : a[i]? = some x) (hb : ∀ y, y ∈ b.drop j → cmpB x y < 0) : MrgTo a b (i + 1) j (out ++ [x]) := by
  obtain ⟨e, hn⟩ := sorted_drop ha hx
  refine ⟨sorted_snoc h.ord fun y hy => h.sepa y hy x (by rw [e]; simp), fun z hz y hy => ?_, fun z hz y hy => ?_, fun z => ?_⟩
  · rcases List.mem_append.1 hz with h1 | h1
    · exact h.sepa z h1 y (by rw [e]; simp [hy])
    · rw [List.mem_singleton.1 h1]; exact hn y hy
  · rcases List.mem_append.1 hz with h1 | h1
    · exact h.sepb z h1 y hy
    · rw [List.mem_singleton.1 h1]; exact hb y hy
  · rw [take_snocD hx, List.mem_append, List.mem_append, h.mem z]
    constructor
    · rintro ((h1 | h1) | h1)
      · exact .inl (.inl h1)
      · exact .inr h1
      · exact .inl (.inr h1)
    · rintro ((h1 | h1) | h1)
      · exact .inl (.inl h1)
      · exact .inr h1
      · exact .inl (.inr h1)
theorem MrgTo.right {a b out : List (List Int)} {i j : Nat} (h : MrgTo a b i j out) (hb : SortedIds b) {x : List Int} (hx : b[j]? = some x) (ha : ∀ y, y ∈ a.drop i → cmpB x y < 0) : MrgTo a b i (j + 1) (out ++ [x]) := by
  obtain ⟨e, hn⟩ := sorted_drop hb hx
  refine ⟨sorted_snoc h.ord fun y hy => h.sepb y hy x (by rw [e]; simp), fun z hz y hy => ?_, fun z hz y hy => ?_, fun z => ?_⟩
  · rcases List.mem_append.1 hz with h1 | h1
    · exact h.sepa z h1 y hy
    · rw [List.mem_singleton.1 h1]; exact ha y hy
  · rcases List.mem_append.1 hz with h1 | h1
    · exact h.sepb z h1 y (by rw [e]; simp [hy])
    · rw [List.mem_singleton.1 h1]; exact hn y hy
  · rw [take_snocD hx, List.mem_append, List.mem_append, h.mem z]
    constructor
    · rintro ((h1 | h1) | h1)
      · exact .inl h1
      · exact .inr (.inl h1)
      · exact .inr (.inr h1)
    · rintro (h1 | h1 | h1)
      · exact .inl (.inl h1)
      · exact .inl (.inr h1)
      · exact .inr h1
/-- One that stands in both. -/
theorem MrgTo.both {a b out : List (List Int)} {i j : Nat} (h : MrgTo a b i j out) (ha : SortedIds a) (hb : SortedIds b) {x : List Int} (hx : a[i]? = some x) (hy : b[j]? = some x) : MrgTo a b (i + 1) (j + 1) (out ++ [x]) := by
  obtain ⟨e, hn⟩ := sorted_drop ha hx
  obtain ⟨e2, hn2⟩ := sorted_drop hb hy
  refine ⟨sorted_snoc h.ord fun y hy => h.sepa y hy x (by rw [e]; simp), fun z hz y hy => ?_, fun z hz y hy => ?_, fun z => ?_⟩
  · rcases List.mem_append.1 hz with h1 | h1
    · exact h.sepa z h1 y (by rw [e]; simp [hy])
    · rw [List.mem_singleton.1 h1]; exact hn y hy
  · rcases List.mem_append.1 hz with h1 | h1
    · exact h.sepb z h1 y (by rw [e2]; simp [hy])
    · rw [List.mem_singleton.1 h1]; exact hn2 y hy
  · rw [take_snocD hx, take_snocD hy, List.mem_append, List.mem_append, List.mem_append, h.mem z]
    constructor
    · rintro ((h1 | h1) | h1)
      · exact .inl (.inl h1)
      · exact .inr (.inl h1)
      · exact .inl (.inr h1)
    · rintro ((h1 | h1) | (h1 | h1))
      · exact .inl (.inl h1)
      · exact .inr h1
      · exact .inl (.inr h1)
      · exact .inr h1
theorem MrgTo.done {a b out : List (List Int)} {i j : Nat} (h : MrgTo a b i j out) (hi : a.length ≤ i) (hj : b.length ≤ j) : SortedIds out ∧ ∀ x, x ∈ out ↔ x ∈ a ∨ x ∈ b :=
  ⟨h.ord, fun x => by rw [h.mem x, List.take_of_length_le hi, List.take_of_length_le hj]⟩
/-- What SortIDs answers. -/
def SortTo (w : World) (ids : List (List Int)) (e : Ending) (w' : World) : Prop := ∃ v M, e = .returned v ∧ SortedIds M ∧ (∀ x, x ∈ M ↔ x ∈ ids) ∧ M.length ≤ ids.length ∧ IdsAt w' v M ∧ Kept [] w w'
theorem made0 (W : World) : (Instr.makeSlice 22 (.int .i64 0) (.int .i64 0)).run Tryd.prog W = .ok (.slice (some ⟨W.heap.size, 0, none⟩) 0 0) (W.alloc (.cells #[] 24)) := by kernel_rfl
theorem made1 (W : World) : (Instr.makeSlice 22 (.int .i64 1) (.int .i64 1)).run Tryd.prog W = .ok (.slice (some ⟨W.heap.size, 0, none⟩) 1 1) (W.alloc (.cells (idC zero32) 24)) := by kernel_rfl
theorem copy0 (W : World) (ty : TypeId) (g : Nat) (ao : Option Addr) (c : Nat) : (Builtin.copy_ #[22, 22] ty #[.slice (some ⟨g, 0, none⟩) 0 0, .slice ao 0 c]).run Tryd.prog W = .ok (.int .i64 0) W := by
  cases ao <;> kernel_rfl
set_option maxRecDepth 100000 in
set_option maxHeartbeats 4000000 in
theorem SortIDs_few (v : Value) (ids : List (List Int)) (w : World) (hv : IdsAt w v ids) (hg : ∀ o, o ∈ ids → GoodID o) (hl : ids.length < 2) : Calls Tryd.prog 57 #[v] w (SortTo w ids) := by
  have HV : Hid (IdsAt w v ids) := hv
  obtain ⟨ao, cap, rfl, hcap, hnil, hlen, hc⟩ := hv
  match ids, hl with
  | [], _ =>
    have hm := made0
    have hcp := copy0
    clear hc hg
    go_enter Tryd.func57, Tryd.ntmps57
    go_wp2
    refine bodyPost_ret (v := .slice (some ⟨w.heap.size, 0, none⟩) 0 0) (by simp [results, Tryd.results57, go_sem]) rfl ?_
    exact ⟨_, [], rfl, List.Pairwise.nil, fun x => Iff.rfl, Nat.le_refl _, ⟨_, 0, rfl, Nat.le_refl _, (fun h => by cases h), by simp, fun h => absurd rfl h⟩, (Kept.refl _ _).alloc _⟩
  | [x], _ =>
    have hgx := hg x (by simp)
    obtain ⟨b, off, hb, hh⟩ := hc (by simp)
    subst hb
    have hr := hh 0 x rfl
    obtain ⟨X, hX⟩ : ∃ X, X = x.map (Value.int .u8) := ⟨_, rfl⟩
    have HX : Hid (X = x.map (Value.int .u8)) := hX
    rw [← hX] at hr
    have hXl : X.length = 32 := by rw [hX, List.length_map]; exact hgx.1
    have hX1 : ∀ v, v ∈ X → v.oneCell' = true := by rw [hX]; exact map_oneCell _
    obtain ⟨W1, hW1⟩ : ∃ W1, W1 = w.alloc (.cells (idC zero32) 24) := ⟨_, rfl⟩
    have HW1 : Hid (W1 = w.alloc (.cells (idC zero32) 24)) := hW1
    have hm : (Instr.makeSlice 22 (.int .i64 1) (.int .i64 1)).run Tryd.prog w = .ok (.slice (some ⟨w.heap.size, 0, none⟩) 1 1) W1 := by rw [hW1]; exact made1 w
    have k1 : Kept [] w W1 := by rw [hW1]; exact (Kept.refl _ _).alloc _
    have hcp : ∀ ty, (Builtin.copy_ #[22, 22] ty #[.slice (some ⟨w.heap.size, 0, none⟩) 1 1, .slice (some ⟨b, off, none⟩) 1 cap]).run Tryd.prog W1 = .ok (goInt 1) (W1.setRow w.heap.size X.toArray) := fun ty =>
      run_copy_k (P := Tryd.prog) W1 22 22 ty 24 32 w.heap.size 1 1 ⟨b, off, none⟩ 1 cap (idC zero32) 24 X Tryd.underlying22 Tryd.infoID (by rw [hW1]; exact heap_alloc_new w _) (by rw [hXl]; rfl) (fun j u hj => by
        rw [Addr.add_mid]
        have h := k1.cell (hr j u hj) (by simp)
        rwa [Nat.zero_mul, Nat.add_zero] at h) (by rw [hXl]; rfl) hX1
    have hbX : (W1.setRow w.heap.size X.toArray).heap[w.heap.size]? = some (.cells X.toArray 24 (0, 0)) := by
      have h : W1.heap[w.heap.size]? = some (.cells (idC zero32) 24 (0, 0)) := by rw [hW1]; exact heap_alloc_new w _
      show (W1.heap.modify w.heap.size _)[w.heap.size]? = _
      rw [Array.getElem?_modify, if_pos rfl, h]
      rfl
    have HF : Hid (SortTo w [x] (.returned (.slice (some ⟨w.heap.size, 0, none⟩) 1 1)) (W1.setRow w.heap.size X.toArray)) := by
      refine ⟨_, [x], rfl, List.pairwise_singleton _ _, fun _ => Iff.rfl, Nat.le_refl _, ⟨some ⟨w.heap.size, 0, none⟩, 1, rfl, Nat.le_refl _, (fun h => by cases h), by simp, fun _ => ⟨w.heap.size, 0, rfl, fun i y hy => ?_⟩⟩, ?_⟩
      · have hi : i = 0 := by
          have := (List.getElem?_eq_some_iff.1 hy).1
          simp at this
          omega
        subst hi
        injection hy with hy
        subst hy
        rw [← HX.out]
        exact row_range hbX
      · exact k1.trans (⟨rfl, rfl, rfl, by simp, fun q _ hq => setRow_other W1 w.heap.size q _ (by simpa using hq)⟩ : Kept [w.heap.size] W1 (W1.setRow w.heap.size X.toArray)) (fun y hy => Or.inr (by rw [List.mem_singleton.1 hy]; exact Nat.le_refl _))
    clear hc hg
    go_enter Tryd.func57, Tryd.ntmps57
    clear hbX hr HX hX hX1 k1 hW1
    go_wp2
    refine bodyPost_ret (v := .slice (some ⟨w.heap.size, 0, none⟩) 1 1) (by simp [results, Tryd.results57, go_sem]) rfl ?_
    exact HF.out
end Go.Proofs.YtlljiipmkjjhhaaDoor
