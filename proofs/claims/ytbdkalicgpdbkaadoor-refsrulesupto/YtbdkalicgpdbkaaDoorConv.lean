/-
  Lists of bytes that are one's own.
  PLAIN MATHEMATICS of package code's numbers: a number in so many bytes, the highest first. No Go text is named here.
  Bytes turned into a string; strings of bytes that are the same.
-/
import Derived.Test.YtbdkalicgpdbkaaDoorChecked
import Derived.Test.YtbdkalicgpdbkaaDoorBase
import Derived.Laws.OwnMore
import Derived.Deep.Onto
import Derived.WalkKit
import Derived.Laws.BytesArg
namespace Go.Proofs.YtbdkalicgpdbkaaDoor
open Go.RowKit

/-- v is a list of the bytes ys in memory of its own, none of it below B. -/
def OwnB (w : World) (B : Nat) (v : Value) (ys : List Int) : Prop := w.ownsRow B 5 1 v ys.length (ys.map (Value.int .u8))

theorem OwnB.bytes {w : World} {B : Nat} {v : Value} {ys : List Int} (h : OwnB w B v ys) : BytesAt w v ys := by
  rcases h.2 with ⟨hv, hn⟩ | ⟨g, cap', cur, hv, hg, hh, hnc, hcm, hcs, htk⟩
  · obtain rfl : ys = [] := List.eq_nil_of_length_eq_zero hn
    rw [hv]; exact BytesAt.nil w
  · rw [hv]
    refine ⟨_, cap', rfl, hnc, fun e => (by simp at e), fun _ => ⟨g, 0, rfl, fun i u hu => ?_⟩⟩
    have hi : i < ys.length := (List.getElem?_eq_some_iff.1 hu).1
    rw [cell_of_row w g (0 + i) _ _ _ hh, Nat.zero_add, ← Array.getElem?_toList]
    have h2 : (cur.toList.take (ys.length * 1))[i]? = cur.toList[i]? := List.getElem?_take_of_lt (by omega)
    rw [← h2, htk]
    simp [hu]
theorem OwnB.kept {w w' : World} {B : Nat} {v : Value} {ys : List Int} {T : List Nat} (h : OwnB w B v ys) (k : Kept T w w') (hd : ∀ x, v.ownBlock = some x → x ∉ T) : OwnB w' B v ys := by
  refine ⟨h.1, ?_⟩
  rcases h.2 with hn | ⟨g, cap', cur, hv, hg, hh, rest⟩
  · exact Or.inl hn
  · refine Or.inr ⟨g, cap', cur, hv, hg, k.heap hh (hd g ?_), rest⟩
    rw [hv]; rfl
theorem OwnB.mono {w : World} {B B' : Nat} {v : Value} {ys : List Int} (h : OwnB w B v ys) (hb : B' ≤ B) : OwnB w B' v ys := World.ownsRow.mono h hb
theorem OwnB.form {w : World} {B : Nat} {v : Value} {ys : List Int} (h : OwnB w B v ys) (hn : ys ≠ []) : ∃ g cap, v = .slice (some ⟨g, 0, none⟩) ys.length cap ∧ B ≤ g ∧ g < w.heap.size := by
  rcases h.2 with ⟨_, h0⟩ | ⟨g, cap', cur, hv, hg, hh, rest⟩
  · exact absurd (List.eq_nil_of_length_eq_zero h0) hn
  · exact ⟨g, cap', hv, (hg), lt_of_block hh⟩
end Go.Proofs.YtbdkalicgpdbkaaDoor

namespace Go.Proofs.YtbdkalicgpdbkaaDoor
open Go.RowKit

/-- The number that these bytes are, the highest first. -/
def be (l : List Int) : Int := l.foldl (fun n x => n * 256 + x) 0
def Octs (ys : List Int) : Prop := ∀ u, u ∈ ys → 0 ≤ u ∧ u ≤ 255
theorem octs_drop {l : List Int} (h : Octs l) (k : Nat) : Octs (l.drop k) := fun u hu => h u (List.mem_of_mem_drop hu)
theorem octs_getD {l : List Int} (h : Octs l) (k : Nat) : 0 ≤ l[k]?.getD 0 ∧ l[k]?.getD 0 ≤ 255 := by
  rcases Nat.lt_or_ge k l.length with hk | hk
  · rw [List.getElem?_eq_getElem hk]; exact h _ (List.getElem_mem hk)
  · rw [List.getElem?_eq_none hk]; simp

/-- What is found at the front of some bytes: a number, where its text begins and where the item ends; the fault, 0 for none. -/
structure Fnd where
  n : Int
  frm : Nat
  to : Nat
  f : Nat

section
variable {most n z : Int} {ys : List Int} {k : Nat}
end

/-- What is told of a number that is found. -/
structure Fnd.Good (x : Fnd) (len : Nat) (most : Int) : Prop where
  n0 : 0 ≤ x.n
  le : x.f = 0 → x.n ≤ most
  frm : x.frm ≤ x.to
  to : x.to ≤ len
  f : x.f ≤ 3
  bad : x.f ≠ 0 → x = ⟨0, 0, 0, x.f⟩
  one : x.f = 0 → 1 ≤ x.to ∧ x.to ≤ 10 ∧ x.frm = x.to
end Go.Proofs.YtbdkalicgpdbkaaDoor

namespace Go.Proofs.YtbdkalicgpdbkaaDoor
open Go.RowKit

theorem BytesAt.conv {w : World} {v : Value} {ys : List Int} (h : BytesAt w v ys) : (convert 45 9 v).run Tryd.prog w = .ok (.string (strOfNums ys)) w := by
  obtain ⟨ao, cap, rfl, hc, hnil, hcell⟩ := h
  by_cases hy : ys = []
  · subst hy
    cases ao with
    | none => exact run_convert_bytes_nil w _ 5 Tryd.underlying45 Tryd.underlying5 0 cap 9 Tryd.underlying9
    | some a =>
      have hl : (loadCells a 0).run Tryd.prog w = .ok (([] : List Int).map (Value.int .u8)).toArray w := run_loadCells_list (P := Tryd.prog) w a [] (fun j v hj => by simp at hj)
      rw [List.length_nil, run_convert_bytes_string w _ 9 5 _ 0 cap Tryd.underlying45 Tryd.underlying5 Tryd.underlying9, run_bytesToString w _ 0 cap [] hl]
      rfl
  · obtain ⟨b, off, rfl, hh⟩ := hcell hy
    refine run_convert_bytes_arg w _ 5 Tryd.underlying45 Tryd.underlying5 b off ys.length cap ys rfl (fun i hi => ?_) 9 Tryd.underlying9
    rw [hh i ys[i] (List.getElem?_eq_getElem hi)]
    simp [List.getD, List.getElem?_eq_getElem hi]

theorem strOfNums_inj {xs ys : List Int} (hx : Octs xs) (hy : Octs ys) : strOfNums xs = strOfNums ys ↔ xs = ys := by
  constructor
  · intro h
    have h1 : (strOfNums xs).data.toList = (strOfNums ys).data.toList := by rw [h]
    rw [strOfNums_data, strOfNums_data] at h1
    apply List.ext_getElem?
    intro i
    have h2 := congrArg (fun l => l[i]?) h1
    simp only [List.getElem?_map] at h2
    cases h3 : xs[i]? with
    | none =>
      rw [h3] at h2
      cases h4 : ys[i]? with
      | none => rfl
      | some b => rw [h4] at h2; simp at h2
    | some a =>
      rw [h3] at h2
      cases h4 : ys[i]? with
      | none => rw [h4] at h2; simp at h2
      | some b =>
        rw [h4] at h2
        simp only [Option.map_some, Option.some.injEq] at h2
        have ha := hx a (List.mem_of_getElem? h3)
        have hb := hy b (List.mem_of_getElem? h4)
        have h5 := congrArg UInt8.toNat h2
        simp only [UInt8.toNat_ofNat'] at h5
        congr 1
        omega
  · rintro rfl; rfl
end Go.Proofs.YtbdkalicgpdbkaaDoor
