/-
  A drawn region walked once, in the order of the text, over a class of worlds of one's own: its laws for a value, a load of a row, a call.
  Structs held against one another, field by field.
  A list of lists of bytes in memory.
  LISTS OF BYTES AND OF INTEGERS OPENED: what a reading of them says of memory, and how much it weighs.
-/
import Derived.Test.YtbdkalicgpdbkaaDoorBase
import Derived.Deep.Quiet
import Derived.Deep.MidRow
import Derived.Test.YtbdkalicgpdbkaaDoorId0
import Derived.DeepKeys
import Derived.Test.YtbdkalicgpdbkaaDoorConv
import Derived.Laws.StructEq
import Derived.Lib.Bytes
import Derived.Test.YtbdkalicgpdbkaaDoorRows
import Derived.ProofKit
import Derived.OpenShut
import Derived.SizedLaws
import Derived.Deep.Slices
namespace Go.Proofs.YtbdkalicgpdbkaaDoor
open Go.RowKit

section
variable {P : Program} {ops : Array Oper} {C : World → Prop} {Q : Act → Prop} {rest : List Oper} {o : Oper} {a : Act}

theorem quiet_val (hw : Region.wanted o (yielded ops a.tmps) = true) (v : Value) (hv : ∀ W, (execOp a.eval o).run P W = .ok (.value v) W) (h : wpQuiet P ops C Q rest (a.put o.dst v)) : wpQuiet P ops C Q (o :: rest) a := by
  unfold wpQuiet
  rw [if_pos hw]
  exact ⟨v, fun W _ => by unfold Oper.quietAt; rw [hv W]; exact ⟨rfl, rfl⟩, h⟩

theorem quiet_row (hw : Region.wanted o (yielded ops a.tmps) = true) (ty : TypeId) (x : Operand) (ho : o.op = .load ty x) (b i : Nat) (hx : a.eval x = .pointer (some ⟨b, i, none⟩)) (cs : List Value) (d : TypeDesc) (hC : ∀ W, C W → W.rangeAt b i cs)
    (hu : P.underlying ty = some d) (hd : d.isRow = true) (hi : (P.info? ty).map (·.size) = some cs.length) (h : wpQuiet P ops C Q rest (a.put o.dst (.agg cs.toArray))) : wpQuiet P ops C Q (o :: rest) a := by
  unfold wpQuiet
  rw [if_pos hw]
  refine ⟨.agg cs.toArray, fun W hW => ?_, h⟩
  unfold Oper.quietAt execOp
  simp only [ho, hx, Instr.loadAt, Instr.sureAddr, Sem.run_bind, Sem.run_pure, Result.andThen_ok, run_loadVar_mid W b i ty cs d (hC W hW) hu hd hi]
  exact ⟨rfl, rfl⟩

theorem quiet_move (hw : Region.wanted o (yielded ops a.tmps) = true) (x : Operand) (ho : o.op = .move x) (v : Value) (hx : a.eval x = v) (h : wpQuiet P ops C Q rest (a.put o.dst v)) : wpQuiet P ops C Q (o :: rest) a :=
  quiet_val hw v (fun W => by unfold execOp; rw [ho, ← hx]; rfl) h
theorem region_quiet {id : Nat} {Q : Exit → Act → World → Prop} {a : Act} {w : World} {l : List Oper} (C : World → Prop) (hm : P.follows .mixedOrders = true) (hB : Region.lexB .any l.toArray = true) (hC : C w.drew)
    (h : wpQuiet P l.toArray C (fun a' => ∀ w', C w' → Q .normal a' w') l a) : (Code.region id l.toArray true).wp P Q a w :=
  wp_region_quiet (C := C) hm hB hC (by simpa using h)
end
end Go.Proofs.YtbdkalicgpdbkaaDoor

namespace Go.Proofs.YtbdkalicgpdbkaaDoor
open Go.RowKit

theorem plainStr : Tryd.prog.plainKey 9 = true := by kernel_rfl
end Go.Proofs.YtbdkalicgpdbkaaDoor

namespace Go.Proofs.YtbdkalicgpdbkaaDoor
open Go.RowKit

/-- A list of lists of bytes. -/
def LsAt (w : World) (v : Value) (L : List (List Int)) : Prop :=
  ∃ ao cap, v = .slice ao L.length cap ∧ L.length ≤ 140737488351232 ∧ (∀ xs, xs ∈ L → Octs xs ∧ xs.length ≤ 140737488351232) ∧ (L ≠ [] → ∃ b off, ao = some ⟨b, off, none⟩ ∧ ∀ (i : Nat) xs, L[i]? = some xs → ∃ u, w.cell? ⟨b, off + i, none⟩ = some u ∧ BytesAt w u xs)
theorem LsAt.kept {w w' : World} {v : Value} {L : List (List Int)} (h : LsAt w v L) (k : Kept [] w w') : LsAt w' v L := by
  obtain ⟨ao, cap, h1, h2, h3, h4⟩ := h
  refine ⟨ao, cap, h1, h2, h3, fun hne => ?_⟩
  obtain ⟨b, off, h5, h6⟩ := h4 hne
  refine ⟨b, off, h5, fun i xs hi => ?_⟩
  obtain ⟨u, h7, h8⟩ := h6 i xs hi
  exact ⟨u, k.cell h7 (by simp), h8.kept' k (fun _ _ _ => by simp)⟩
end Go.Proofs.YtbdkalicgpdbkaaDoor

namespace Go.Proofs.YtbdkalicgpdbkaaDoor
open Go.ChangeShapes Go.WideShapes Go.ChangeAt Go.RowKit Go.Deep

theorem Tryd.cells_u8 : Tryd.prog.cellsOf 5 = 1 := by kernel_rfl
theorem Tryd.bytes_u8 : Tryd.prog.bytesOf 5 = 1 := by kernel_rfl
section
variable {H : Type} {enc : TypeId × Value → H} {w : World} {base : Nat} {spare : Nat → Bool} {held : Bool} {fuel : Nat} {cs : List Value} {x : DataW H × List MemPlace}

theorem octs_wf {zs : List Int} (h : ∀ n ∈ zs, (Lit.int .u8 n).wf = true) : Octs zs := fun u hu => by
  have h1 := h u hu
  have e1 : IntKind.u8.min = 0 := rfl
  have e2 : IntKind.u8.max = 255 := rfl
  simp only [Lit.wf, Bool.and_eq_true, decide_eq_true_eq, e1, e2] at h1
  omega
theorem bulk_length (l : List (DataW H)) : l.length ≤ Rows.uptoBulkAll l := by
  induction l with
  | nil => simp [Rows.uptoBulkAll]
  | cons d r ih =>
    have h1 : 1 ≤ Rows.uptoBulk d := by
      cases d with
      | lit l => cases l <;> simp [Rows.uptoBulk]
      | nil => simp [Rows.uptoBulk]
      | ptr d => simp [Rows.uptoBulk]
      | slice elems spare => simp [Rows.uptoBulk]
      | agg parts => simp [Rows.uptoBulk]
      | iface t d => simp [Rows.uptoBulk]
      | map entries => simp [Rows.uptoBulk]
      | held h => simp [Rows.uptoBulk]
    simp only [Rows.uptoBulkAll, List.length_cons]
    omega

theorem open_bytes (h : DataW.trod enc Tryd.prog w base spare held fuel 45 cs = some x) :
    ∃ ao cap ys, cs = [.slice ao ys.length cap] ∧ BytesAt w (.slice ao ys.length cap) ys ∧ Octs ys ∧ (∀ B, (DataW.weights Tryd.prog 45 x.1).all (· ≤ B) = true → ys.length ≤ B) ∧ ys.length + 1 ≤ Rows.uptoBulk x.1 := by
  rcases open_ints Tryd.underlying45 Tryd.underlying5 Tryd.cells_u8 h with ⟨rfl, rfl⟩ | ⟨a, len, cap, zs, rfl, _, hl, hm, hz, rfl, hcell, hwz⟩
  · exact ⟨none, 0, [], rfl, BytesAt.nil w, fun u hu => by simp at hu, fun _ _ => Nat.zero_le _, by simp [Rows.uptoBulk]⟩
  · have hlz : len ≤ zs.length := by rw [hz]; split <;> omega
    have hy : (zs.take len).length = len := by simp; omega
    refine ⟨some a, cap, zs.take len, by rw [hy], ?_, fun u hu => octs_wf hwz u (List.mem_of_mem_take hu), fun B hB => ?_, ?_⟩
    · refine ⟨some a, cap, rfl, by rw [hy]; exact hl, fun e => (by simp at e), fun hne => ?_⟩
      have hpos : 0 < zs.length := by
        rcases Nat.eq_zero_or_pos zs.length with h0 | h0
        · rw [List.eq_nil_of_length_eq_zero h0] at hne; simp at hne
        · exact h0
      obtain ⟨b, off, rfl, hc⟩ := ints_at hcell hpos
      refine ⟨b, off, rfl, fun i u hu => ?_⟩
      have hi : i < (zs.take len).length := (List.getElem?_eq_some_iff.1 hu).1
      rw [hy] at hi
      rw [hc i (by omega)]
      rw [List.getElem?_take_of_lt hi] at hu
      simp [List.getD, hu]
    · rw [hy]
      simp only [DataW.weights, Tryd.underlying45, Tryd.bytes_u8, List.all_cons, Bool.and_eq_true, decide_eq_true_eq, lits, List.length_map, List.length_take, List.length_drop] at hB
      omega
    · have h1 := bulk_length (lits (H := H) .u8 (zs.take len))
      simp only [Rows.uptoBulk]
      simp only [lits, List.length_map] at h1 ⊢
      omega
end
end Go.Proofs.YtbdkalicgpdbkaaDoor
