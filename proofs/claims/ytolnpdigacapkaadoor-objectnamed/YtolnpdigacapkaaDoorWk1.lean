/-
  WALK: satchellaw3.wakes.
-/
import Derived.Test.YtolnpdigacapkaaDoorWk0
import Derived.Test.YtolnpdigacapkaaDoorChil
namespace Go.Proofs.YtolnpdigacapkaaDoor
open Go.RowKit

def wid (n : Int) : List Int := n :: List.replicate 31 0
def wC : ComL := ⟨List.replicate 32 0, [wid 1, wid 2], [109, 101], 5, [120]⟩
def wT : TagL := ⟨wid 3, 1, [110], [], 0, []⟩
theorem wC_fault : faultC wC = 0 := by kernel_rfl
theorem wT_fault : faultG wT = 0 := by kernel_rfl
theorem wC_len : (encC wC).length = 111 := by kernel_rfl
theorem wT_len : (encG wT).length = 46 := by kernel_rfl
theorem wid_good (n : Int) (h0 : 0 ≤ n) (h1 : n ≤ 255) : GoodID (wid n) := ⟨rfl, fun u hu => by
  rcases List.mem_cons.1 hu with rfl | hu
  · omega
  · have := List.eq_of_mem_replicate hu
    omega⟩
theorem wC_good : wC.Good := by
  refine ⟨⟨rfl, fun u hu => by have := List.eq_of_mem_replicate hu; omega⟩, fun o ho => ?_, ⟨fun u hu => by simp [wC] at hu; omega, by decide⟩, by decide, by decide, ⟨fun u hu => by simp [wC] at hu; omega, by decide⟩⟩
  have h : o = wid 1 ∨ o = wid 2 := by simpa [wC] using ho
  rcases h with rfl | rfl
  · exact wid_good 1 (by decide) (by decide)
  · exact wid_good 2 (by decide) (by decide)
theorem wT_good : wT.Good := ⟨wid_good 3 (by decide) (by decide), by decide, by decide, ⟨fun u hu => by simp [wT] at hu; omega, by decide⟩, ⟨fun u hu => by simp [wT] at hu, by decide⟩, by decide, by decide, ⟨fun u hu => by simp [wT] at hu, by decide⟩⟩
theorem wC_fit : wC.Fit := ⟨rfl, fun o ho => (wC_good.parents o ho).1, by decide, by decide, by decide, by decide, by decide⟩
theorem wT_fit : wT.Fit := ⟨rfl, by decide, by decide, by decide, by decide, by decide, by decide, by decide⟩
theorem octs_app {xs ys : List Int} (h1 : Octs xs) (h2 : Octs ys) : Octs (xs ++ ys) := fun u hu => (List.mem_append.1 hu).elim (h1 u) (h2 u)
theorem wC_octs : Octs (encC wC) := by
  have : (encC wC).all (fun u => decide (0 ≤ u ∧ u ≤ 255)) = true := by kernel_rfl
  intro u hu
  have := List.all_eq_true.1 this u hu
  simpa using this
theorem wT_octs : Octs (encG wT) := by
  have : (encG wT).all (fun u => decide (0 ≤ u ∧ u ≤ 255)) = true := by kernel_rfl
  intro u hu
  have := List.all_eq_true.1 this u hu
  simpa using this
theorem wpList_built {ops : Array Oper} {rest : List Oper} {o : Oper} {a : Act} {w : World} {Q : Exit → Act → World → Prop} (hg : o.guard = none) (t : TypeId) (parts : Array (Nat × Operand)) (ho : o.op = .build t parts) (A : Array Value)
    (hb : Tryd.prog.built t (parts.map fun (i, x) => (i, a.eval x)).toList = some A) (h : wpList Tryd.prog ops Q rest (a.put o.dst (.agg A)) w) : wpList Tryd.prog ops Q (o :: rest) a w :=
  wpList_build hg t parts ho (by rw [hb]; rfl) (by rw [hb]; exact h)
theorem ids_of_rows {w : World} {b : Nat} {t : TypeId} {ids : List (List Int)} (h : RowsIn w b t (ids.map idRow)) (hl : ∀ o, o ∈ ids → o.length = 32) (hn : ids.length ≤ 140737488351232) : IdsAt w (.slice (some ⟨b, 0, none⟩) ids.length ids.length) ids :=
  ⟨_, _, rfl, Nat.le_refl _, fun e => (by cases e), hn, fun _ => ⟨b, 0, rfl, fun i xs hi => by
    have := h.range 32 (by decide) (fun r hr => by obtain ⟨o, ho, rfl⟩ := List.mem_map.1 hr; rw [idRow, List.length_map]; exact hl o ho) i (idRow xs) (by rw [List.getElem?_map, hi]; rfl)
    rw [Nat.zero_add]
    exact this⟩⟩
theorem bytes_row1 {w : World} {q : Nat} {ys : List Int} (h : w.heap[q]? = some (.cells (ys.map (Value.int .u8)).toArray 5 (0, 0))) : BytesAt w (.slice (some ⟨q, 0, none⟩) ys.length ys.length) ys :=
  ⟨_, _, rfl, Nat.le_refl _, fun e => (by cases e), fun _ => ⟨q, 0, rfl, fun i u hi => by
    rw [Nat.zero_add, cell_of_row _ _ _ _ _ _ h]
    simp [hi]⟩⟩
/-- What wakes calls, one by one. -/
theorem wEncC (pv : Value) (w : World) (hT : Tabs w) (hp : IdsAt w pv wC.parents) :
    Calls Tryd.prog 5 #[.agg (comO wC pv).row.toArray] w fun e w' => ∃ b, e = .returned (.tuple #[.slice (some ⟨b, 0, none⟩) 111 111, .int .i64 0]) ∧ BytesAt w' (.slice (some ⟨b, 0, none⟩) 111 111) (encC wC) ∧ Kept [] w w' := by
  refine (encodeC wC pv w hT hp wC_good (by rw [wC_len]; decide) (by decide)).mono ?_
  rintro e w' ⟨hk, _, _, h⟩
  obtain ⟨b, he, hb, _⟩ := h wC_fault (by rw [wC_len]; decide)
  have hB := bytes_row1 hb
  rw [wC_len] at he hB
  exact ⟨b, he, hB, hk⟩
theorem wEncT (w : World) (hT : Tabs w) :
    Calls Tryd.prog 5 #[.agg (tagO wT).row.toArray] w fun e w' => ∃ b, e = .returned (.tuple #[.slice (some ⟨b, 0, none⟩) 46 46, .int .i64 0]) ∧ BytesAt w' (.slice (some ⟨b, 0, none⟩) 46 46) (encG wT) ∧ Kept [] w w' := by
  refine (encodeT wT w hT wT_good (by rw [wT_len]; decide) (by decide)).mono ?_
  rintro e w' ⟨hk, _, _, h⟩
  obtain ⟨b, he, hb, _⟩ := h wT_fault (by rw [wT_len]; decide)
  have hB := bytes_row1 hb
  rw [wT_len] at he hB
  exact ⟨b, he, hB, hk⟩
theorem slice_form {w : World} {v : Value} {xs : List Int} (h : BytesAt w v xs) : ∃ ao n c, v = .slice ao n c := by
  obtain ⟨ao, c, rfl, _⟩ := h
  exact ⟨_, _, _, rfl⟩
theorem wParse (v : Value) (w : World) (hT : Tabs w) (hv : BytesAt w v (encC wC)) :
    Calls Tryd.prog 8 #[v] w fun e w' => Kept [] w w' ∧ ∃ b, e = .returned (.tuple #[.agg (comO wC (.slice (some ⟨b, 0, none⟩) 2 2)).row.toArray, .int .i64 0]) ∧ IdsAt w' (.slice (some ⟨b, 0, none⟩) 2 2) wC.parents := by
  refine (parseCom v w wC 2 (slice_form hv) rfl (fun W hW => readC wC v W (hT.kept hW) (hv.kept hW (fun _ _ => by simp)) wC_octs (by rw [wC_len]; decide) wC_fit wC_fault)).mono ?_
  rintro e w' ⟨hk, b, he, hr, _⟩
  exact ⟨hk, b, he, ids_of_rows hr (fun o ho => (wC_good.parents o ho).1) (by decide)⟩
theorem wChil (v : Value) (w : World) (hT : Tabs w) (hv : BytesAt w v (encG wT)) :
    Calls Tryd.prog 7 #[v] w fun e w' => Kept [] w w' ∧ ∃ b, e = .returned (.tuple #[.slice (some ⟨b, 0, none⟩) 1 1, .int .i64 0]) ∧ w'.cell? ⟨b, 32, none⟩ = some (.int .i64 1) := by
  refine (childrenTag v w wT (slice_form hv) wT_good (readT wT v w hT hv wT_octs (by rw [wT_len]; decide) wT_fit wT_fault)).mono ?_
  rintro e w' ⟨hk, b, he, hr, _⟩
  refine ⟨hk, b, he, ?_⟩
  rw [cell_of_row _ _ _ _ _ _ hr]
  rfl
theorem wKind (v : Value) (w : World) (hT : Tabs w) (hv : BytesAt w v (encG wT)) :
    Calls Tryd.prog 10 #[v] w fun e w' => e = .returned (.int .i64 4) ∧ Kept [] w w' :=
  kind_ok v (encG wT) w hv wT_octs 4 (by kernel_rfl) _ (readT wT v w hT hv wT_octs (by rw [wT_len]; decide) wT_fit wT_fault)
theorem wName (w : World) (hT : Tabs w) : Calls Tryd.prog 6 #[.string { data := #[110] }] w fun e w' => e = .returned (.bool true) ∧ Kept [] w w' := by
  have h := Name_any [110] (fun u hu => by simp at hu; omega) w (by decide) hT
  rwa [show nameB [110] = true by kernel_rfl] at h
end Go.Proofs.YtolnpdigacapkaaDoor
