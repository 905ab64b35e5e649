/-
  WALKS: (*code.Writer).U8, U64 and Bytes, for every Writer.
  Lists of bytes that are one's own.
  Bytes turned into a string; strings of bytes that are the same.
-/
import Derived.Test.YtmambfdfkobjgaaDoorWFixed
import Derived.Test.YtmambfdfkobjgaaDoorWVar
import Derived.Test.YtmambfdfkobjgaaDoorU8
import Derived.Laws.OwnMore
import Derived.Deep.Onto
import Derived.Test.YtmambfdfkobjgaaDoorPlain
import Derived.Laws.BytesArg
namespace Go.Proofs.YtmambfdfkobjgaaDoor
open Go.RowKit

/-- As 'BytesAt.kept': of an empty slice nothing is asked. -/
theorem BytesAt.keep {S : List Nat} {w w' : World} {v : Value} {ys : List Int} (h : BytesAt w v ys) (hk : Kept S w w') (hn : ys ≠ [] → ∀ b, blkOf v = some b → b ∉ S) : BytesAt w' v ys := by
  obtain ⟨ao, cap, rfl, hc, hnil, hcell⟩ := h
  refine ⟨ao, cap, rfl, hc, hnil, fun hne => ?_⟩
  obtain ⟨b, off, rfl, hh⟩ := hcell hne
  exact ⟨b, off, rfl, fun i u hu => hk.cell (hh i u hu) (hn hne b rfl)⟩

set_option maxHeartbeats 400000 in
theorem WU8_any {w : World} {wb B : Nat} {zs : List Int} {S : List Nat} (h : WAt w wb B zs S) (hBw : B ≤ w.heap.size) (n : Int) (hn0 : 0 ≤ n) (hn1 : n ≤ 255) (hm : zs.length + 8 ≤ 140737488355328) :
    Calls Tryd.prog 72 #[.pointer (some ⟨wb, 0, none⟩), .int .u8 n] w fun e w' => e = .returned (.tuple #[]) ∧ Wrote w w' wb B (zs ++ fixedB n 1) S := by
  have hcall := WFixed_any h hBw n 1 (by decide) hm
  clear h
  go_enter Tryd.func72, Tryd.ntmps72
  go_wp2_with (go_at_call 74; refine hcall.mono ?_; rintro e w1 ⟨rfl, hw⟩)
  go_end0
  exact ⟨rfl, hw⟩

set_option maxHeartbeats 400000 in
theorem WU64_any {w : World} {wb B : Nat} {zs : List Int} {S : List Nat} (h : WAt w wb B zs S) (hBw : B ≤ w.heap.size) (n : Int) (hm : zs.length + 8 ≤ 140737488355328) :
    Calls Tryd.prog 87 #[.pointer (some ⟨wb, 0, none⟩), .int .u64 n] w fun e w' => e = .returned (.tuple #[]) ∧ Wrote w w' wb B (zs ++ fixedB n 8) S := by
  have hcall := WFixed_any h hBw n 8 (by decide) hm
  clear h
  go_enter Tryd.func87, Tryd.ntmps87
  go_wp2_with (go_at_call 74; refine hcall.mono ?_; rintro e w1 ⟨rfl, hw⟩)
  go_end0
  exact ⟨rfl, hw⟩

set_option maxHeartbeats 400000 in
theorem WBytes_any {w : World} {wb B : Nat} {zs : List Int} {S : List Nat} (h : WAt w wb B zs S) (hBw : B ≤ w.heap.size) (v : Value) (ys : List Int) (hv : BytesAt w v ys) (hd : ys ≠ [] → ∀ b, blkOf v = some b → b ∉ S) (hoy : Octs ys)
    (hm : zs.length + 10 + ys.length ≤ 140737488355328) :
    Calls Tryd.prog 81 #[.pointer (some ⟨wb, 0, none⟩), v] w fun e w' => e = .returned (.tuple #[]) ∧ Wrote w w' wb B (zs ++ varB ys.length ++ ys) S := by
  have hvl := varB_len (ys.length : Int) (by omega) (by omega)
  have hcall := WVar_any h hBw (ys.length : Int) (by omega) (by omega) (by omega)
  have hraw : ∀ w1, Wrote w w1 wb B (zs ++ varB ys.length) S → Calls Tryd.prog 73 #[.pointer (some ⟨wb, 0, none⟩), v] w1 fun e w' => e = .returned (.tuple #[]) ∧ Wrote w w' wb B (zs ++ varB ys.length ++ ys) S := by
    rintro w1 ⟨S1, hw1, hk1, hs1⟩
    refine (WRaw_any hw1 (Nat.le_trans hBw hk1.size) v ys (hv.keep hk1 hd) hoy (by simp; omega)).mono ?_
    rintro e w2 ⟨he, hw2⟩
    exact ⟨he, Wrote.trans hk1 hs1 hw2⟩
  obtain ⟨ao, cap, rfl, _⟩ := hv
  have HW : Hid _ := hraw
  clear h hd hraw
  go_enter Tryd.func81, Tryd.ntmps81
  go_wp2_with (first | (go_at_call 78; refine hcall.mono ?_; rintro e w1 ⟨rfl, hw⟩) | (go_at_call 73; refine (HW.out _ hw).mono ?_; rintro e w2 ⟨rfl, hw2⟩))
  go_end0
  exact ⟨rfl, hw2⟩

end Go.Proofs.YtmambfdfkobjgaaDoor

namespace Go.Proofs.YtmambfdfkobjgaaDoor
open Go.RowKit

/-- v is a list of the bytes ys in memory of its own, none of it below B. -/
def OwnB (w : World) (B : Nat) (v : Value) (ys : List Int) : Prop := w.ownsRow B 5 1 v ys.length (ys.map (Value.int .u8))

theorem OwnB.bytes {w : World} {B : Nat} {v : Value} {ys : List Int} (h : OwnB w B v ys) : BytesAt w v ys := by
  rcases h.2 with ⟨hv, hn⟩ | ⟨g, cap', cur, hv, hg, hh, hnc, hcm, hcs, htk⟩
  · obtain rfl : ys = [] := List.eq_nil_of_length_eq_zero hn
    rw [hv]; exact BytesAt.nil w
  · rw [hv]
    refine ⟨_, cap', rfl, hnc, fun e => (by simp at e), fun _ => ⟨g, 0, rfl, fun i u hu => ?_⟩⟩
    have hi : i < ys.length := (List.getElem?_eq_some_iff.1 hu).1
    rw [cell_of_row w g (0 + i) _ _ _ hh, Nat.zero_add, ← Array.getElem?_toList]
    have h2 : (cur.toList.take (ys.length * 1))[i]? = cur.toList[i]? := List.getElem?_take_of_lt (by omega)
    rw [← h2, htk]
    simp [hu]
theorem OwnB.kept {w w' : World} {B : Nat} {v : Value} {ys : List Int} {T : List Nat} (h : OwnB w B v ys) (k : Kept T w w') (hd : ∀ x, v.ownBlock = some x → x ∉ T) : OwnB w' B v ys := by
  refine ⟨h.1, ?_⟩
  rcases h.2 with hn | ⟨g, cap', cur, hv, hg, hh, rest⟩
  · exact Or.inl hn
  · refine Or.inr ⟨g, cap', cur, hv, hg, k.heap hh (hd g ?_), rest⟩
    rw [hv]; rfl
theorem OwnB.mono {w : World} {B B' : Nat} {v : Value} {ys : List Int} (h : OwnB w B v ys) (hb : B' ≤ B) : OwnB w B' v ys := World.ownsRow.mono h hb
theorem OwnB.form {w : World} {B : Nat} {v : Value} {ys : List Int} (h : OwnB w B v ys) (hn : ys ≠ []) : ∃ g cap, v = .slice (some ⟨g, 0, none⟩) ys.length cap ∧ B ≤ g ∧ g < w.heap.size := by
  rcases h.2 with ⟨_, h0⟩ | ⟨g, cap', cur, hv, hg, hh, rest⟩
  · exact absurd (List.eq_nil_of_length_eq_zero h0) hn
  · exact ⟨g, cap', hv, (hg), lt_of_block hh⟩
theorem OwnB.one {w : World} (x : Int) : OwnB (w.alloc (.cells #[.int .u8 x] 5)) w.heap.size (.slice (some ⟨w.heap.size, 0, none⟩) 1 1) [x] :=
  World.ownsRow_lit (base := w.heap.size) (e := 5) (size := 1) w #[.int .u8 x] 1 (Nat.le_refl _) (by unfold maxLen; omega) (by simp)

end Go.Proofs.YtmambfdfkobjgaaDoor

namespace Go.Proofs.YtmambfdfkobjgaaDoor
open Go.RowKit

theorem BytesAt.conv {w : World} {v : Value} {ys : List Int} (h : BytesAt w v ys) : (convert 22 9 v).run Tryd.prog w = .ok (.string (strOfNums ys)) w := by
  obtain ⟨ao, cap, rfl, hc, hnil, hcell⟩ := h
  by_cases hy : ys = []
  · subst hy
    cases ao with
    | none => exact run_convert_bytes_nil w _ 5 Tryd.underlying22 Tryd.underlying5 0 cap 9 Tryd.underlying9
    | some a =>
      have hl : (loadCells a 0).run Tryd.prog w = .ok (([] : List Int).map (Value.int .u8)).toArray w := run_loadCells_list (P := Tryd.prog) w a [] (fun j v hj => by simp at hj)
      rw [List.length_nil, run_convert_bytes_string w _ 9 5 _ 0 cap Tryd.underlying22 Tryd.underlying5 Tryd.underlying9, run_bytesToString w _ 0 cap [] hl]
      rfl
  · obtain ⟨b, off, rfl, hh⟩ := hcell hy
    refine run_convert_bytes_arg w _ 5 Tryd.underlying22 Tryd.underlying5 b off ys.length cap ys rfl (fun i hi => ?_) 9 Tryd.underlying9
    rw [hh i ys[i] (List.getElem?_eq_getElem hi)]
    simp [List.getD, List.getElem?_eq_getElem hi]

theorem strOfNums_inj {xs ys : List Int} (hx : Octs xs) (hy : Octs ys) : strOfNums xs = strOfNums ys ↔ xs = ys := by
  constructor
  · intro h
    have h1 : (strOfNums xs).data.toList = (strOfNums ys).data.toList := by rw [h]
    rw [strOfNums_data, strOfNums_data] at h1
    apply List.ext_getElem?
    intro i
    have h2 := congrArg (fun l => l[i]?) h1
    simp only [List.getElem?_map] at h2
    cases h3 : xs[i]? with
    | none =>
      rw [h3] at h2
      cases h4 : ys[i]? with
      | none => rfl
      | some b => rw [h4] at h2; simp at h2
    | some a =>
      rw [h3] at h2
      cases h4 : ys[i]? with
      | none => rw [h4] at h2; simp at h2
      | some b =>
        rw [h4] at h2
        simp only [Option.map_some, Option.some.injEq] at h2
        have ha := hx a (List.mem_of_getElem? h3)
        have hb := hy b (List.mem_of_getElem? h4)
        have h5 := congrArg UInt8.toNat h2
        simp only [UInt8.toNat_ofNat'] at h5
        congr 1
        omega
  · rintro rfl; rfl
end Go.Proofs.YtmambfdfkobjgaaDoor
