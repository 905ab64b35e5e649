/-
  WALKS: an Ask of a name: (satchellaw3.Ask).holds; satchellaw3.all, ObjectNames.
-/
import Derived.Test.YtmambfdfkobjgaaGreatDoorSg2
import Derived.Test.YtmambfdfkobjgaaGreatDoorWk2
namespace Go.Proofs.YtmambfdfkobjgaaGreatDoor
open Go.RowKit

theorem wpList_want {P : Program} {ops : Array Oper} {rest : List Oper} {o : Oper} {a : Act} {w : World} {Q : Exit → Act → World → Prop} (hw : Region.wanted o (yielded ops a.tmps) = true)
    (h : ∀ K : Act → World → Prop, (∀ a w, wpList P ops Q rest a w → K a w) → o.wp P a w K Q) : wpList P ops Q (o :: rest) a w :=
  wpList_step fun K hK => by rw [if_pos hw]; exact h K hK

/-- What is read of an Ask: what it wants, and its name. -/
structure AskN where
  row : List Value
  doo : Int
  name : List Int
structure AskN.Good (a : AskN) : Prop where
  len : a.row.length = 79
  doo : a.row[0]? = some (.int .i64 a.doo)
  nam : a.row[78]? = some (.string (strOfNums a.name))
  txt : GoodText a.name
/-- The slice of the asks lies so. -/
def AsksAt (w : World) (v : Value) (aks : List AskN) : Prop :=
  ∃ ao cap, v = .slice ao aks.length cap ∧ aks.length ≤ 140737488351232 ∧
    (aks ≠ [] → ∃ b off, ao = some ⟨b, off, none⟩ ∧ ∀ (i : Nat) (a : AskN), aks[i]? = some a → w.rangeAt b (off + i * 79) a.row)

theorem AsksAt.kept {w w' : World} {v : Value} {aks : List AskN} (h : AsksAt w v aks) (k : Kept [] w w') : AsksAt w' v aks := by
  obtain ⟨ao, cap, rfl, hl, hc⟩ := h
  refine ⟨ao, cap, rfl, hl, fun hne => ?_⟩
  obtain ⟨b, off, rfl, hh⟩ := hc hne
  exact ⟨b, off, rfl, fun i a ha => range_kept (hh i a ha) k (by simp)⟩

set_option maxRecDepth 100000 in
set_option maxHeartbeats 4000000 in
theorem holdsName_any (a : AskN) (ha : a.Good) (h6 : a.doo = 6) (w : World) (hT : Tabs w) :
    Calls Tryz.prog 6 #[.agg a.row.toArray] w fun e w' => e = .returned (.bool true) ∧ Kept [] w w' := by
  have HC : Hid (∀ W, Kept [] (w.alloc (.cells a.row.toArray 41)) W → W.cell? ⟨w.heap.size, 0, none⟩ = some (.int .i64 6) ∧ W.cell? ⟨w.heap.size, 78, none⟩ = some (.string (strOfNums a.name))) := fun W k => by
    have hb := k.heap (heap_alloc_new w (.cells a.row.toArray 41)) (by simp)
    refine ⟨?_, ?_⟩
    · rw [cell_of_row _ _ _ _ _ _ hb, List.getElem?_toArray, ha.doo, h6]
    · rw [cell_of_row _ _ _ _ _ _ hb, List.getElem?_toArray, ha.nam]
  have hsz : a.row.toArray.size = 79 := by rw [List.size_toArray, ha.len]
  have HK0 : Hid (Kept [] w (w.alloc (.cells a.row.toArray 41))) := (Kept.refl _ _).alloc _
  have HN : Hid (∀ W, Kept [] w W → Calls Tryz.prog 11 #[.string (strOfNums a.name)] W fun e w' => e = .returned (.bool (nameB a.name)) ∧ Kept [] W w') := fun W k => Name_any a.name ha.txt.1 W (Nat.le_trans ha.txt.2 (by decide)) (hT.kept k)
  have HR : Hid (∀ W, Calls Tryz.prog 23 #[.string (strOfNums a.name)] W fun e w' => e = .returned (.bool (nameB a.name)) ∧ w' = W) := fun W => RName_any a.name ha.txt.1 (by have := ha.txt.2; omega) W
  obtain ⟨g0, g78⟩ := HC.out _ (Kept.refl _ _)
  generalize a.row.toArray = av at *
  generalize strOfNums a.name = S at *
  generalize nameB a.name = bn at *
  have hn := fun W k => HN.out W (HK0.out.then k)
  clear ha h6 hT
  go_enter Tryz.func6, Tryz.ntmps6
  go_wp2_with fail
  go_region_with (first
    | (go_at_call 11; with_reducible refine (hn _ ((Kept.refl [] (w.alloc (.cells av 41))).drew)).mono ?_
       rintro e w1 ⟨rfl, k1⟩
       have k2 : Kept [] (w.alloc (.cells av 41)) w1 := ((Kept.refl [] (w.alloc (.cells av 41))).drew).then k1
       obtain ⟨p0, p78⟩ := HC.out w1 k2
       have HK1 : Hid (Kept [] w w1) := HK0.out.then k2
       clear k1 k2)
    | (go_at_call 23; with_reducible refine (HR.out _).mono ?_
       rintro e w2 ⟨rfl, hw2⟩
       subst w2))
  all_goals (cases bn <;> (go_wp2; go_ret; exact ⟨rfl, HK1.out⟩))

set_option maxRecDepth 100000 in
set_option maxHeartbeats 4000000 in
theorem allName_any {w : World} {v : Value} {aks : List AskN} (hv : AsksAt w v aks) (hg : ∀ a, a ∈ aks → a.Good) (hT : Tabs w) :
    Calls Tryz.prog 4 #[.agg #[v], .int .i64 6, .int .i64 6] w fun e w' => e = .returned (.bool true) ∧ Kept [] w w' := by
  obtain ⟨ao, cap, rfl, hal, hcc⟩ := hv
  obtain ⟨W0, hW0⟩ : ∃ W0, W0 = w.alloc (.cells #[.slice ao aks.length cap] 24) := ⟨_, rfl⟩
  have HW0 : Hid (W0 = w.alloc (.cells #[.slice ao aks.length cap] 24)) := hW0
  have HK0 : Hid (Kept [] w W0) := by rw [hW0]; exact (Kept.refl _ _).alloc _
  have HBx : Hid (∀ W, Kept [] W0 W → W.cell? ⟨w.heap.size, 0, none⟩ = some (.slice ao aks.length cap)) := fun W k => by
    have hb := k.heap (show W0.heap[w.heap.size]? = _ by rw [hW0]; exact heap_alloc_new w _) (by simp)
    rw [cell_of_row _ _ _ _ _ _ hb]
    rfl
  have HC : Hid (aks ≠ [] → ∃ b off, ao = some ⟨b, off, none⟩ ∧ ∀ (i : Nat) (a : AskN), aks[i]? = some a → w.rangeAt b (off + i * 79) a.row) := hcc
  have HG : Hid (∀ a, a ∈ aks → a.Good) := hg
  have HT : Hid (∀ W, Kept [] w W → Tabs W) := fun W k => hT.kept k
  have hwk := wakes_any W0 (HT.out _ HK0.out)
  rw [hW0] at hwk
  clear hcc hg hT hW0
  go_enter Tryz.func4, Tryz.ntmps4
  go_wp2_with fail
  go_at_call 5
  refine hwk.mono ?_
  rintro e w1 ⟨rfl, k1⟩
  rw [← HW0.out] at k1
  have HK1 : Hid (Kept [] W0 w1) := k1
  clear hwk k1
  go_wp2
  go_loopw [7] (fun s7 wr => ∃ k : Nat, k ≤ aks.length ∧ s7 = .int .i64 k ∧ Hid (Kept [] W0 wr)) (fun s7 _ => aks.length - (intOf s7).toNat)
  case atStart => exact ⟨0, Nat.zero_le _, rfl, HK1⟩
  case round =>
    clear HK1
    obtain ⟨k, hk, rfl, HK⟩ := hrel
    have g0 := HBx.out wr HK.out
    by_cases hlt : k < aks.length
    · have t1 : decide ((k : Int) < aks.length) = true := by simp; omega
      obtain ⟨a, ha⟩ : ∃ a, aks[k]? = some a := ⟨aks[k], List.getElem?_eq_getElem hlt⟩
      obtain ⟨b, off, rfl, hcell⟩ := HC.out (by rintro rfl; simp at hlt)
      have hr0 := hcell k a ha
      have hga := HG.out a (List.mem_of_getElem? ha)
      have HRg : Hid (∀ W, Kept [] W0 W → W.rangeAt b (off + k * 79) a.row) := fun W kW => range_kept hr0 (HK0.out.then kW) (by simp)
      have gd : wr.cell? ⟨b, off + k * 79, none⟩ = some (.int .i64 a.doo) := by
        have h := HRg.out wr HK.out 0 _ hga.doo
        rwa [Nat.add_zero] at h
      have i0 : (0 : Int) ≤ (k : Int) := by omega
      have i1 : (k : Int) < (aks.length : Int) := by omega
      clear hcell hr0 ha
      by_cases h6 : a.doo = 6
      · have hh := fun W kW => holdsName_any a hga h6 W (HT.out W (HK0.out.then kW))
        have hrr := HRg.out wr HK.out
        have hi79 : (Tryz.prog.info? 41).map (·.size) = some a.row.length := by rw [hga.len]; kernel_rfl
        have hun := Tryz.underlying41
        rw [h6] at gd
        have hhw := hh wr HK.out
        clear hga h6 HRg hh
        generalize a.row = er at *
        go_wp2_with (refine wpList_want (by rfl) (fun K hK => wp_load_mid 41 (.tmp 39) (by rfl) b (off + k * 79) (by rfl) er _ hrr hun rfl hi79 (hK _ _ ?_)))
        go_at_call 6
        refine hhw.mono ?_
        rintro e w2 ⟨rfl, k2⟩
        have HK2 : Hid (Kept [] W0 w2) := HK.out.then k2
        clear hhw k2 hrr
        go_wp2
        go_roundw
        case rel => exact ⟨k + 1, by omega, by go_num, HK2⟩
        case measure => simp [intOf]; omega
      · generalize a.doo = d at *
        by_cases h7 : 6 ≤ d
        · have d1 : decide (6 ≤ d) = true := by simpa using h7
          have d2 : decide (d ≤ 6) = false := by simp; omega
          go_wp2
          go_roundw
          case rel => exact ⟨k + 1, by omega, by go_num, HK⟩
          case measure => simp [intOf]; omega
        · have d1 : decide (6 ≤ d) = false := by simpa using h7
          go_wp2
          go_roundw
          case rel => exact ⟨k + 1, by omega, by go_num, HK⟩
          case measure => simp [intOf]; omega
    · have t1 : decide ((k : Int) < aks.length) = false := by simp; omega
      go_wp2
      go_ret
      exact ⟨rfl, HK0.out.then HK.out⟩

set_option maxHeartbeats 1000000 in
theorem names_any {w : World} {v : Value} {aks : List AskN} (hv : AsksAt w v aks) (hg : ∀ a, a ∈ aks → a.Good) (hT : Tabs w) :
    Calls Tryz.prog 3 #[.agg #[v]] w fun e w' => e = .returned (.bool true) ∧ Kept [] w w' := by
  have k0 : Kept [] w (w.alloc (.cells #[v] 24)) := (Kept.refl _ _).alloc _
  have h := allName_any (hv.kept k0) hg (hT.kept k0)
  have HK0 : Hid (Kept [] w (w.alloc (.cells #[v] 24))) := k0
  clear hv hg hT k0
  go_enter Tryz.func3, Tryz.ntmps3
  go_wp2_with fail
  go_at_call 4
  refine h.mono ?_
  rintro e w1 ⟨rfl, k1⟩
  have HK : Hid (Kept [] w w1) := HK0.out.then k1
  clear h k1
  go_wp2
  go_ret
  exact ⟨rfl, HK.out⟩
end Go.Proofs.YtmambfdfkobjgaaGreatDoor
