/-
  Bytes turned into a string; strings of bytes that are the same.
-/
import Derived.Test.YtpdmlnimdbepaaaDoorOwn0
import Derived.Test.YtpdmlnimdbepaaaDoorPlain
import Derived.Laws.BytesArg
namespace Go.Proofs.YtpdmlnimdbepaaaDoor
open Go.RowKit

theorem BytesAt.conv {w : World} {v : Value} {ys : List Int} (h : BytesAt w v ys) : (convert 27 9 v).run Tryd.prog w = .ok (.string (strOfNums ys)) w := by
  obtain ⟨ao, cap, rfl, hc, hnil, hcell⟩ := h
  by_cases hy : ys = []
  · subst hy
    cases ao with
    | none => exact run_convert_bytes_nil w _ 5 Tryd.underlying27 Tryd.underlying5 0 cap 9 Tryd.underlying9
    | some a =>
      have hl : (loadCells a 0).run Tryd.prog w = .ok (([] : List Int).map (Value.int .u8)).toArray w := run_loadCells_list (P := Tryd.prog) w a [] (fun j v hj => by simp at hj)
      rw [List.length_nil, run_convert_bytes_string w _ 9 5 _ 0 cap Tryd.underlying27 Tryd.underlying5 Tryd.underlying9, run_bytesToString w _ 0 cap [] hl]
      rfl
  · obtain ⟨b, off, rfl, hh⟩ := hcell hy
    refine run_convert_bytes_arg w _ 5 Tryd.underlying27 Tryd.underlying5 b off ys.length cap ys rfl (fun i hi => ?_) 9 Tryd.underlying9
    rw [hh i ys[i] (List.getElem?_eq_getElem hi)]
    simp [List.getD, List.getElem?_eq_getElem hi]

theorem strOfNums_inj {xs ys : List Int} (hx : Octs xs) (hy : Octs ys) : strOfNums xs = strOfNums ys ↔ xs = ys := by
  constructor
  · intro h
    have h1 : (strOfNums xs).data.toList = (strOfNums ys).data.toList := by rw [h]
    rw [strOfNums_data, strOfNums_data] at h1
    apply List.ext_getElem?
    intro i
    have h2 := congrArg (fun l => l[i]?) h1
    simp only [List.getElem?_map] at h2
    cases h3 : xs[i]? with
    | none =>
      rw [h3] at h2
      cases h4 : ys[i]? with
      | none => rfl
      | some b => rw [h4] at h2; simp at h2
    | some a =>
      rw [h3] at h2
      cases h4 : ys[i]? with
      | none => rw [h4] at h2; simp at h2
      | some b =>
        rw [h4] at h2
        simp only [Option.map_some, Option.some.injEq] at h2
        have ha := hx a (List.mem_of_getElem? h3)
        have hb := hy b (List.mem_of_getElem? h4)
        have h5 := congrArg UInt8.toNat h2
        simp only [UInt8.toNat_ofNat'] at h5
        congr 1
        omega
  · rintro rfl; rfl
end Go.Proofs.YtpdmlnimdbepaaaDoor
