/-
  LISTS OF BYTES AND OF INTEGERS OPENED: what a reading of them says of memory, and how much it weighs.
  Facts on uint8's type, and rows of bytes.
  Lists of bytes that are one's own.
  Bytes turned into a string; strings of bytes that are the same.
-/
import Derived.Test.YtmambfdfkobjgaaGreatDoorRows
import Derived.Test.YtmambfdfkobjgaaGreatDoorBase
import Derived.Test.YtmambfdfkobjgaaGreatDoorPlain
import Derived.ProofKit
import Derived.OpenShut
import Derived.SizedLaws
import Derived.Deep.Slices
import Derived.Test.YtmambfdfkobjgaaGreatDoorChecked
import Derived.Laws.OwnMore
import Derived.Deep.Onto
import Derived.Laws.BytesArg
namespace Go.Proofs.YtmambfdfkobjgaaGreatDoor
open Go.ChangeShapes Go.WideShapes Go.ChangeAt Go.RowKit Go.Deep

theorem Tryz.cells_u8 : Tryz.prog.cellsOf 5 = 1 := by kernel_rfl
theorem Tryz.bytes_u8 : Tryz.prog.bytesOf 5 = 1 := by kernel_rfl
theorem Tryz.cells_bytes : Tryz.prog.cellsOf 28 = 1 := by kernel_rfl
theorem Tryz.cells_int : Tryz.prog.cellsOf 3 = 1 := by kernel_rfl

section
variable {H : Type} {enc : TypeId × Value → H} {w : World} {base : Nat} {spare : Nat → Bool} {held : Bool} {fuel : Nat} {cs : List Value} {x : DataW H × List MemPlace}

theorem octs_wf {zs : List Int} (h : ∀ n ∈ zs, (Lit.int .u8 n).wf = true) : Octs zs := fun u hu => by
  have h1 := h u hu
  have e1 : IntKind.u8.min = 0 := rfl
  have e2 : IntKind.u8.max = 255 := rfl
  simp only [Lit.wf, Bool.and_eq_true, decide_eq_true_eq, e1, e2] at h1
  omega
theorem i64_wf {n : Int} (h : (Lit.int .i64 n).wf = true) : -9223372036854775808 ≤ n ∧ n ≤ 9223372036854775807 := by
  have e1 : IntKind.i64.min = -9223372036854775808 := rfl
  have e2 : IntKind.i64.max = 9223372036854775807 := rfl
  simp only [Lit.wf, Bool.and_eq_true, decide_eq_true_eq, e1, e2] at h
  omega
theorem u64_wf {n : Int} (h : (Lit.int .u64 n).wf = true) : 0 ≤ n ∧ n ≤ 18446744073709551615 := by
  have e1 : IntKind.u64.min = 0 := rfl
  have e2 : IntKind.u64.max = 18446744073709551615 := rfl
  simp only [Lit.wf, Bool.and_eq_true, decide_eq_true_eq, e1, e2] at h
  omega

theorem bulk_length (l : List (DataW H)) : l.length ≤ Rows.uptoBulkAll l := by
  induction l with
  | nil => simp [Rows.uptoBulkAll]
  | cons d r ih =>
    have h1 : 1 ≤ Rows.uptoBulk d := by
      cases d with
      | lit l => cases l <;> simp [Rows.uptoBulk]
      | nil => simp [Rows.uptoBulk]
      | ptr d => simp [Rows.uptoBulk]
      | slice elems spare => simp [Rows.uptoBulk]
      | agg parts => simp [Rows.uptoBulk]
      | iface t d => simp [Rows.uptoBulk]
      | map entries => simp [Rows.uptoBulk]
      | held h => simp [Rows.uptoBulk]
    simp only [Rows.uptoBulkAll, List.length_cons]
    omega

theorem open_bytes (h : DataW.trod enc Tryz.prog w base spare held fuel 28 cs = some x) :
    ∃ ao cap ys, cs = [.slice ao ys.length cap] ∧ BytesAt w (.slice ao ys.length cap) ys ∧ Octs ys ∧ (∀ B, (DataW.weights Tryz.prog 28 x.1).all (· ≤ B) = true → ys.length ≤ B) ∧ ys.length + 1 ≤ Rows.uptoBulk x.1 := by
  rcases open_ints Tryz.underlying28 Tryz.underlying5 Tryz.cells_u8 h with ⟨rfl, rfl⟩ | ⟨a, len, cap, zs, rfl, _, hl, hm, hz, rfl, hcell, hwz⟩
  · exact ⟨none, 0, [], rfl, BytesAt.nil w, fun u hu => by simp at hu, fun _ _ => Nat.zero_le _, by simp [Rows.uptoBulk]⟩
  · have hlz : len ≤ zs.length := by rw [hz]; split <;> omega
    have hy : (zs.take len).length = len := by simp; omega
    refine ⟨some a, cap, zs.take len, by rw [hy], ?_, fun u hu => octs_wf hwz u (List.mem_of_mem_take hu), fun B hB => ?_, ?_⟩
    · refine ⟨some a, cap, rfl, by rw [hy]; exact hl, fun e => (by simp at e), fun hne => ?_⟩
      have hpos : 0 < zs.length := by
        rcases Nat.eq_zero_or_pos zs.length with h0 | h0
        · rw [List.eq_nil_of_length_eq_zero h0] at hne; simp at hne
        · exact h0
      obtain ⟨b, off, rfl, hc⟩ := ints_at hcell hpos
      refine ⟨b, off, rfl, fun i u hu => ?_⟩
      have hi : i < (zs.take len).length := (List.getElem?_eq_some_iff.1 hu).1
      rw [hy] at hi
      rw [hc i (by omega)]
      rw [List.getElem?_take_of_lt hi] at hu
      simp [List.getD, hu]
    · rw [hy]
      simp only [DataW.weights, Tryz.underlying28, Tryz.bytes_u8, List.all_cons, Bool.and_eq_true, decide_eq_true_eq, lits, List.length_map, List.length_take, List.length_drop] at hB
      omega
    · have h1 := bulk_length (lits (H := H) .u8 (zs.take len))
      simp only [Rows.uptoBulk]
      simp only [lits, List.length_map] at h1 ⊢
      omega
end
end Go.Proofs.YtmambfdfkobjgaaGreatDoor

namespace Go.Proofs.YtmambfdfkobjgaaGreatDoor
open Go.RowKit

theorem Tryz.info_u8 : (Tryz.prog.info? 5).map (fun i => (i.zero, i.size, i.bytes)) = some (some (.int .u8 0), 1, 1) := by kernel_rfl
theorem Tryz.size_u8 : (Tryz.prog.info? 5).map (·.size) = some 1 := by kernel_rfl

theorem map_oneCell (ys : List Int) : ∀ v, v ∈ ys.map (Value.int .u8) → v.oneCell' = true := ints_oneCell .u8 ys

theorem splice_all (n : Nat) (z : Value) (cs : List Value) (h : cs.length = n) : splice (List.replicate n z) 0 cs = cs := by
  simp [splice, h]

end Go.Proofs.YtmambfdfkobjgaaGreatDoor

namespace Go.Proofs.YtmambfdfkobjgaaGreatDoor
open Go.RowKit

/-- v is a list of the bytes ys in memory of its own, none of it below B. -/
def OwnB (w : World) (B : Nat) (v : Value) (ys : List Int) : Prop := w.ownsRow B 5 1 v ys.length (ys.map (Value.int .u8))

theorem OwnB.bytes {w : World} {B : Nat} {v : Value} {ys : List Int} (h : OwnB w B v ys) : BytesAt w v ys := by
  rcases h.2 with ⟨hv, hn⟩ | ⟨g, cap', cur, hv, hg, hh, hnc, hcm, hcs, htk⟩
  · obtain rfl : ys = [] := List.eq_nil_of_length_eq_zero hn
    rw [hv]; exact BytesAt.nil w
  · rw [hv]
    refine ⟨_, cap', rfl, hnc, fun e => (by simp at e), fun _ => ⟨g, 0, rfl, fun i u hu => ?_⟩⟩
    have hi : i < ys.length := (List.getElem?_eq_some_iff.1 hu).1
    rw [cell_of_row w g (0 + i) _ _ _ hh, Nat.zero_add, ← Array.getElem?_toList]
    have h2 : (cur.toList.take (ys.length * 1))[i]? = cur.toList[i]? := List.getElem?_take_of_lt (by omega)
    rw [← h2, htk]
    simp [hu]
theorem OwnB.kept {w w' : World} {B : Nat} {v : Value} {ys : List Int} {T : List Nat} (h : OwnB w B v ys) (k : Kept T w w') (hd : ∀ x, v.ownBlock = some x → x ∉ T) : OwnB w' B v ys := by
  refine ⟨h.1, ?_⟩
  rcases h.2 with hn | ⟨g, cap', cur, hv, hg, hh, rest⟩
  · exact Or.inl hn
  · refine Or.inr ⟨g, cap', cur, hv, hg, k.heap hh (hd g ?_), rest⟩
    rw [hv]; rfl
theorem OwnB.mono {w : World} {B B' : Nat} {v : Value} {ys : List Int} (h : OwnB w B v ys) (hb : B' ≤ B) : OwnB w B' v ys := World.ownsRow.mono h hb
theorem OwnB.form {w : World} {B : Nat} {v : Value} {ys : List Int} (h : OwnB w B v ys) (hn : ys ≠ []) : ∃ g cap, v = .slice (some ⟨g, 0, none⟩) ys.length cap ∧ B ≤ g ∧ g < w.heap.size := by
  rcases h.2 with ⟨_, h0⟩ | ⟨g, cap', cur, hv, hg, hh, rest⟩
  · exact absurd (List.eq_nil_of_length_eq_zero h0) hn
  · exact ⟨g, cap', hv, (hg), lt_of_block hh⟩
theorem OwnB.one {w : World} (x : Int) : OwnB (w.alloc (.cells #[.int .u8 x] 5)) w.heap.size (.slice (some ⟨w.heap.size, 0, none⟩) 1 1) [x] :=
  World.ownsRow_lit (base := w.heap.size) (e := 5) (size := 1) w #[.int .u8 x] 1 (Nat.le_refl _) (by unfold maxLen; omega) (by simp)

end Go.Proofs.YtmambfdfkobjgaaGreatDoor

namespace Go.Proofs.YtmambfdfkobjgaaGreatDoor
open Go.RowKit

theorem BytesAt.conv {w : World} {v : Value} {ys : List Int} (h : BytesAt w v ys) : (convert 28 9 v).run Tryz.prog w = .ok (.string (strOfNums ys)) w := by
  obtain ⟨ao, cap, rfl, hc, hnil, hcell⟩ := h
  by_cases hy : ys = []
  · subst hy
    cases ao with
    | none => exact run_convert_bytes_nil w _ 5 Tryz.underlying28 Tryz.underlying5 0 cap 9 Tryz.underlying9
    | some a =>
      have hl : (loadCells a 0).run Tryz.prog w = .ok (([] : List Int).map (Value.int .u8)).toArray w := run_loadCells_list (P := Tryz.prog) w a [] (fun j v hj => by simp at hj)
      rw [List.length_nil, run_convert_bytes_string w _ 9 5 _ 0 cap Tryz.underlying28 Tryz.underlying5 Tryz.underlying9, run_bytesToString w _ 0 cap [] hl]
      rfl
  · obtain ⟨b, off, rfl, hh⟩ := hcell hy
    refine run_convert_bytes_arg w _ 5 Tryz.underlying28 Tryz.underlying5 b off ys.length cap ys rfl (fun i hi => ?_) 9 Tryz.underlying9
    rw [hh i ys[i] (List.getElem?_eq_getElem hi)]
    simp [List.getD, List.getElem?_eq_getElem hi]

theorem strOfNums_inj {xs ys : List Int} (hx : Octs xs) (hy : Octs ys) : strOfNums xs = strOfNums ys ↔ xs = ys := by
  constructor
  · intro h
    have h1 : (strOfNums xs).data.toList = (strOfNums ys).data.toList := by rw [h]
    rw [strOfNums_data, strOfNums_data] at h1
    apply List.ext_getElem?
    intro i
    have h2 := congrArg (fun l => l[i]?) h1
    simp only [List.getElem?_map] at h2
    cases h3 : xs[i]? with
    | none =>
      rw [h3] at h2
      cases h4 : ys[i]? with
      | none => rfl
      | some b => rw [h4] at h2; simp at h2
    | some a =>
      rw [h3] at h2
      cases h4 : ys[i]? with
      | none => rw [h4] at h2; simp at h2
      | some b =>
        rw [h4] at h2
        simp only [Option.map_some, Option.some.injEq] at h2
        have ha := hx a (List.mem_of_getElem? h3)
        have hb := hy b (List.mem_of_getElem? h4)
        have h5 := congrArg UInt8.toNat h2
        simp only [UInt8.toNat_ofNat'] at h5
        congr 1
        omega
  · rintro rfl; rfl
end Go.Proofs.YtmambfdfkobjgaaGreatDoor
