/-
  Entries of a tree: as cells, in memory, in lists.
  WALK: (object.tree).fault.
  WALK: (object.tree).write.
-/
import Derived.Test.YtddhhjgegkkjbaaGreatDoorStep
import Derived.Test.YtddhhjgegkkjbaaGreatDoorObj1
import Derived.Deep.WholeRow
namespace Go.Proofs.YtddhhjgegkkjbaaGreatDoor
open Go.RowKit

def GoodText (xs : List Int) : Prop := Octs xs ∧ xs.length ≤ 140737488351232
structure EntL where
  mode : Int
  name : List Int
  id : List Int
def EntL.row (e : EntL) : List Value := .int .i64 e.mode :: .string (strOfNums e.name) :: e.id.map (Value.int .u8)
structure EntL.Good (e : EntL) : Prop where
  lo : -9223372036854775808 ≤ e.mode
  hi : e.mode ≤ 9223372036854775807
  name : GoodText e.name
  id : GoodID e.id
theorem EntL.row_len {e : EntL} (h : GoodID e.id) : e.row.length = 34 := by simp [EntL.row, h.1]

/-- A list of rows of k cells lies so. -/
def RowsAt (w : World) (v : Value) (k : Nat) (rows : List (List Value)) : Prop :=
  ∃ ao cap, v = .slice ao rows.length cap ∧ rows.length ≤ cap ∧ (ao = none → cap = 0) ∧ rows.length ≤ 140737488351232 ∧ (rows ≠ [] → ∃ b off, ao = some ⟨b, off, none⟩ ∧ ∀ (i : Nat) (cs : List Value), rows[i]? = some cs → w.rangeAt b (off + i * k) cs)
theorem RowsAt.keep {w w' : World} {v : Value} {k : Nat} {rows : List (List Value)} {T : List Nat} (h : RowsAt w v k rows) (q : Kept T w w') (hn : rows ≠ [] → ∀ b, blkOf v = some b → b ∉ T) : RowsAt w' v k rows := by
  obtain ⟨ao, cap, rfl, h1, h0, h2, hc⟩ := h
  refine ⟨ao, cap, rfl, h1, h0, h2, fun hne => ?_⟩
  obtain ⟨b, off, rfl, hh⟩ := hc hne
  exact ⟨b, off, rfl, fun i xs hi => range_kept (hh i xs hi) q (hn hne b rfl)⟩
/-- A list of entries lies so. -/
def EntsAt (w : World) (v : Value) (es : List EntL) : Prop := RowsAt w v 34 (es.map EntL.row)
theorem EntsAt.keep {w w' : World} {v : Value} {es : List EntL} {T : List Nat} (h : EntsAt w v es) (q : Kept T w w') (hn : es ≠ [] → ∀ b, blkOf v = some b → b ∉ T) : EntsAt w' v es :=
  RowsAt.keep h q fun hne => hn fun e => hne (by rw [e]; rfl)
theorem EntsAt.form {w : World} {v : Value} {es : List EntL} (h : EntsAt w v es) : ∃ ao cap, v = .slice ao es.length cap ∧ es.length ≤ cap ∧ es.length ≤ 140737488351232 ∧ (es ≠ [] → ∃ b off, ao = some ⟨b, off, none⟩ ∧ ∀ (i : Nat) (e : EntL), es[i]? = some e → w.rangeAt b (off + i * 34) e.row) := by
  obtain ⟨ao, cap, hv, h1, h0, h2, hc⟩ := h
  rw [List.length_map] at hv h1 h2
  refine ⟨ao, cap, hv, h1, h2, fun hne => ?_⟩
  obtain ⟨b, off, hb, hh⟩ := hc (by simpa using hne)
  exact ⟨b, off, hb, fun i e he => hh i e.row (by rw [List.getElem?_map, he]; rfl)⟩

theorem Tryz.infoEnt : (Tryz.prog.info? 127).map (·.size) = some 34 := by kernel_rfl
theorem ent_one (e : EntL) : e.row.toArray.all (·.oneCell') = true := all_oneCell_toArray fun v hv => by
  unfold EntL.row at hv
  rcases List.mem_cons.1 hv with rfl | hv
  · rfl
  · rcases List.mem_cons.1 hv with rfl | hv
    · rfl
    · exact map_oneCell _ v hv
theorem row_range {w : World} {b : Nat} {cs : List Value} {t : TypeId} {fr : Nat × Nat} (h : w.heap[b]? = some (.cells cs.toArray t fr)) : w.rangeAt b 0 cs := fun j v hj => by
  rw [cell_of_row _ _ _ _ _ _ h, Nat.zero_add, List.getElem?_toArray]; exact hj
/-- What a new variable with an entry in it holds. -/
theorem ent_cells (w : World) (e : EntL) : (w.alloc (.cells e.row.toArray 127)).cell? ⟨w.heap.size, 0, none⟩ = some (.int .i64 e.mode) ∧ (w.alloc (.cells e.row.toArray 127)).cell? ⟨w.heap.size, 1, none⟩ = some (.string (strOfNums e.name)) ∧
    (w.alloc (.cells e.row.toArray 127)).rangeAt w.heap.size 2 (e.id.map (Value.int .u8)) := by
  have hb := heap_alloc_new w (.cells e.row.toArray 127)
  refine ⟨?_, ?_, fun j v hj => ?_⟩
  · rw [cell_of_row _ _ _ _ _ _ hb]; rfl
  · rw [cell_of_row _ _ _ _ _ _ hb]; rfl
  · rw [cell_of_row _ _ _ _ _ _ hb, List.getElem?_toArray]
    unfold EntL.row
    rw [show 2 + j = j + 1 + 1 by omega, List.getElem?_cons_succ, List.getElem?_cons_succ]
    exact hj
/-- A new variable, and what is stored into it at once. -/
theorem wpList_store_new {ops : Array Oper} {rest : List Oper} {o : Oper} {a : Act} {Q : Exit → Act → World → Prop} (hgd : o.guard = none) (ty : TypeId) (x y : Operand) (ho : o.op = .store ty x y) (w0 : World) (old cells : Array Value)
    (hx : a.eval x = .pointer (some ⟨w0.heap.size, 0, none⟩)) (hy : a.eval y = .agg cells) (hi : (Tryz.prog.info? ty).map (·.size) = some cells.size) (hold : old.size = cells.size) (h1 : cells.all (·.oneCell') = true)
    (h : wpList Tryz.prog ops Q rest (a.put o.dst undef) (w0.alloc (.cells cells ty))) : wpList Tryz.prog ops Q (o :: rest) a (w0.alloc (.cells old ty)) := by
  refine wpList_store_row hgd ty x y ho w0.heap.size cells hx hy ty old (heap_alloc_new w0 _) hi hold h1 ?_
  rw [World.setRow_alloc_new]
  exact h
end Go.Proofs.YtddhhjgegkkjbaaGreatDoor

namespace Go.Proofs.YtddhhjgegkkjbaaGreatDoor
open Go.RowKit

theorem Tabs.kept [TabC] {w w' : World} (h : Tabs w) (k : Kept [] w w') : Tabs w' := FTat.kept h k (by simp) (by simp)

def modeB (m : Int) : Bool := decide (1 ≤ m) && decide (m ≤ 4)
def lessB (a b : List Int) : Bool := Op.bytesLess (strOfNums a).toList (strOfNums b).toList
def nameAt (es : List EntL) (i : Nat) : List Int := (es[i]?.map EntL.name).getD []
def ascB (es : List EntL) : Bool := (List.range (es.length - 1)).all fun i => lessB (nameAt es i) (nameAt es (i + 1))
/-- The first error of a tree's entries. -/
def faultT [TabC] (es : List EntL) : Int := if 1024 < es.length then 35 else if es.all (fun e => modeB e.mode) = false then 34 else if es.all (fun e => nameB e.name) = false then 32 else if ascB es = false then 33 else 0
theorem all_of {es : List EntL} {p : EntL → Bool} (h : ∀ (i : Nat) (e : EntL), es[i]? = some e → i < es.length → p e = true) : es.all p = true := by
  rw [List.all_eq_true]
  intro e he
  obtain ⟨i, hi, rfl⟩ := List.getElem_of_mem he
  exact h i _ (List.getElem?_eq_getElem hi) hi
theorem not_all {es : List EntL} {p : EntL → Bool} {k : Nat} {e : EntL} (he : es[k]? = some e) (hp : p e = false) : es.all p = false := by
  rw [List.all_eq_false]
  exact ⟨e, List.mem_of_getElem? he, by rw [hp]; simp⟩
theorem faultT_many [TabC] {es : List EntL} (h : 1024 < es.length) : faultT es = 35 := if_pos h
theorem faultT_mode [TabC] {es : List EntL} (h : ¬ 1024 < es.length) (h1 : es.all (fun e => modeB e.mode) = false) : faultT es = 34 := by unfold faultT; rw [if_neg h, if_pos h1]
theorem faultT_name [TabC] {es : List EntL} (h : ¬ 1024 < es.length) (h1 : es.all (fun e => modeB e.mode) = true) (h2 : es.all (fun e => nameB e.name) = false) : faultT es = 32 := by unfold faultT; rw [if_neg h, h1, if_neg (by decide), if_pos h2]
theorem faultT_asc [TabC] {es : List EntL} (h : ¬ 1024 < es.length) (h1 : es.all (fun e => modeB e.mode) = true) (h2 : es.all (fun e => nameB e.name) = true) (h3 : ascB es = false) : faultT es = 33 := by unfold faultT; rw [if_neg h, h1, if_neg (by decide), h2, if_neg (by decide), if_pos h3]
theorem faultT_ok [TabC] {es : List EntL} (h : ¬ 1024 < es.length) (h1 : es.all (fun e => modeB e.mode) = true) (h2 : es.all (fun e => nameB e.name) = true) (h3 : ascB es = true) : faultT es = 0 := by unfold faultT; rw [if_neg h, h1, if_neg (by decide), h2, if_neg (by decide), h3, if_neg (by decide)]

set_option maxRecDepth 100000 in
set_option maxHeartbeats 2000000 in
theorem treeFault_any [TabC] (v : Value) (es : List EntL) (w : World) (hT : Tabs w) (hv : EntsAt w v es) (hg : ∀ e, e ∈ es → e.Good) :
    Calls Tryz.prog 127 #[v] w fun e w' => e = .returned (.int .i64 (faultT es)) ∧ Kept [] w w' := by
  have HV : Hid (∀ W, Kept [] w W → EntsAt W v es) := fun W k => hv.keep k (fun _ _ _ => by simp)
  have HG : Hid (∀ e, e ∈ es → e.Good) := hg
  have HT : Hid (∀ W, Kept [] w W → Tabs W) := fun W k => hT.kept k
  have hun := Tryz.underlying127
  obtain ⟨ao, cap, rfl, hcap, hlen, _⟩ := hv.form
  clear hv hg hT
  by_cases hm : es.length ≤ 1024
  · have hd0 : decide (1024 < (es.length : Int)) = false := decide_eq_false (by omega)
    go_enter Tryz.func127, Tryz.ntmps127
    go_wp2
    go_loopw [13, 4] (fun s13 _ wr => ∃ k : Nat, k ≤ es.length ∧ s13 = .int .i64 k ∧ Hid (∀ (i : Nat) (e : EntL), es[i]? = some e → i < k → 1 ≤ e.mode ∧ e.mode ≤ 4) ∧ Hid (Kept [] w wr)) (fun s13 _ _ => es.length - (intOf s13).toNat)
    case atStart => exact ⟨0, Nat.zero_le _, rfl, fun i e _ h => absurd h (by omega), Kept.refl _ _⟩
    case round =>
      obtain ⟨k, hk, rfl, HM, HK⟩ := hrel
      by_cases hlt : k < es.length
      · obtain ⟨e, he⟩ : ∃ e, es[k]? = some e := ⟨_, List.getElem?_eq_getElem hlt⟩
        have hge := HG.out e (List.mem_of_getElem? he)
        obtain ⟨ao', cap', hvv, _, _, hc⟩ := (HV.out wr HK.out).form
        injection hvv with e1 e2 e3
        subst e1 e3
        obtain ⟨b, off, rfl, hh⟩ := hc (by rintro rfl; simp at hlt)
        have hr := hh k e he
        have hse : (Tryz.prog.info? 127).map (·.size) = some e.row.length := by rw [EntL.row_len hge.id]; exact Tryz.infoEnt
        have hsa : (Tryz.prog.info? 127).map (·.size) = some e.row.toArray.size := by rw [List.size_toArray]; exact hse
        have h34 : e.row.toArray.size = 34 := by rw [List.size_toArray, EntL.row_len hge.id]
        have h1 := ent_one e
        obtain ⟨x0, x1, x2⟩ := ent_cells wr e
        have hlo := hge.lo
        have hhi := hge.hi
        clear hh hc
        have HKA : Hid (Kept [] w (wr.alloc (.cells e.row.toArray 127))) := HK.out.alloc _
        generalize hrow : e.row = er at *
        clear hrow
        by_cases hmode : 1 ≤ e.mode ∧ e.mode ≤ 4
        · have HM' : Hid (∀ (i : Nat) (e : EntL), es[i]? = some e → i < k + 1 → 1 ≤ e.mode ∧ e.mode ≤ 4) := fun i x hx hi => by
            by_cases hik : i = k
            · subst hik
              rw [he] at hx
              cases hx
              exact hmode
            · exact HM.out i x hx (by omega)
          have hd1 : decide (e.mode < 1) = false := decide_eq_false (by omega)
          have hd2 : decide (4 < e.mode) = false := decide_eq_false (by omega)
          clear he hge hmode hlo hhi
          generalize e.mode = md at *
          generalize strOfNums e.name = sn at *
          go_wp2_with (first
            | (refine wpList_load_mid (by rfl) 127 (.tmp 15) (by rfl) b (off + k * 34) (by rfl) er _ hr hun rfl hse ?_)
            | (refine wpList_store_new (by rfl) 127 (.tmp 4) (.tmp 16) (by rfl) wr _ er.toArray (by rfl) (by rfl) hsa (by rw [h34]; rfl) h1 ?_))
          go_roundw
          case rel => exact ⟨k + 1, by omega, by go_num, HM', HKA⟩
          case measure => simp [intOf]; omega
        · have HF : Hid (faultT es = 34) := faultT_mode (by omega) (not_all he (by
            unfold modeB
            by_cases h1 : 1 ≤ e.mode
            · rw [decide_eq_false (by omega : ¬ e.mode ≤ 4)]; simp
            · rw [decide_eq_false h1]; rfl))
          have hdd : decide (e.mode < 1) = true ∨ decide (e.mode < 1) = false ∧ decide (4 < e.mode) = true := by
            by_cases h1 : 1 ≤ e.mode
            · exact Or.inr ⟨decide_eq_false (by omega), decide_eq_true (by omega)⟩
            · exact Or.inl (decide_eq_true (by omega))
          clear he hge hmode hlo hhi
          generalize e.mode = md at *
          generalize strOfNums e.name = sn at *
          rcases hdd with hd1 | ⟨hd1, hd2⟩
          all_goals go_wp2_with (first
            | (refine wpList_load_mid (by rfl) 127 (.tmp 15) (by rfl) b (off + k * 34) (by rfl) er _ hr hun rfl hse ?_)
            | (refine wpList_store_new (by rfl) 127 (.tmp 4) (.tmp 16) (by rfl) wr _ er.toArray (by rfl) (by rfl) hsa (by rw [h34]; rfl) h1 ?_))
          all_goals go_ret
          all_goals exact ⟨by rw [HF.out]; rfl, HKA.out⟩
      · obtain rfl : k = es.length := by omega
        have HMA : Hid (es.all (fun e => modeB e.mode) = true) := all_of fun i e he hi => by
          have h := HM.out i e he hi
          unfold modeB
          rw [decide_eq_true h.1, decide_eq_true h.2]
          rfl
        clear HM
        go_wp2
        go_loopw [28, 6] (fun s28 _ wr => ∃ k : Nat, k ≤ es.length ∧ s28 = .int .i64 k ∧ Hid (∀ (i : Nat) (e : EntL), es[i]? = some e → i < k → nameB e.name = true) ∧ Hid (Kept [] w wr)) (fun s28 _ _ => es.length - (intOf s28).toNat)
        case atStart => exact ⟨0, Nat.zero_le _, rfl, fun i e _ h => absurd h (by omega), HK⟩
        case round =>
          clear HK
          obtain ⟨k, hk, rfl, HN, HK⟩ := hrel
          by_cases hlt : k < es.length
          · obtain ⟨e, he⟩ : ∃ e, es[k]? = some e := ⟨_, List.getElem?_eq_getElem hlt⟩
            have hge := HG.out e (List.mem_of_getElem? he)
            obtain ⟨ao', cap', hvv, _, _, hc⟩ := (HV.out wr HK.out).form
            injection hvv with e1 e2 e3
            subst e1 e3
            obtain ⟨b, off, rfl, hh⟩ := hc (by rintro rfl; simp at hlt)
            have hr := hh k e he
            have hse : (Tryz.prog.info? 127).map (·.size) = some e.row.length := by rw [EntL.row_len hge.id]; exact Tryz.infoEnt
            have hsa : (Tryz.prog.info? 127).map (·.size) = some e.row.toArray.size := by rw [List.size_toArray]; exact hse
            have h34 : e.row.toArray.size = 34 := by rw [List.size_toArray, EntL.row_len hge.id]
            have h1 := ent_one e
            obtain ⟨x0, x1, x2⟩ := ent_cells wr e
            have HKA : Hid (Kept [] w (wr.alloc (.cells e.row.toArray 127))) := HK.out.alloc _
            have hname := Name_any e.name hge.name.1 (wr.alloc (.cells e.row.toArray 127)) (Nat.le_trans hge.name.2 (by decide)) (HT.out _ HKA.out)
            generalize hrow : e.row = er at *
            clear hrow hh hc
            by_cases hnm : nameB e.name = true
            · have HN' : Hid (∀ (i : Nat) (e : EntL), es[i]? = some e → i < k + 1 → nameB e.name = true) := fun i x hx hi => by
                by_cases hik : i = k
                · subst hik
                  rw [he] at hx
                  cases hx
                  exact hnm
                · exact HN.out i x hx (by omega)
              rw [hnm] at hname
              clear he hge hnm
              generalize e.mode = md at *
              generalize strOfNums e.name = sn at *
              go_wp2_with (first
                | (refine wpList_load_mid (by rfl) 127 (.tmp 30) (by rfl) b (off + k * 34) (by rfl) er _ hr hun rfl hse ?_)
                | (refine wpList_store_new (by rfl) 127 (.tmp 6) (.tmp 31) (by rfl) wr _ er.toArray (by rfl) (by rfl) hsa (by rw [h34]; rfl) h1 ?_)
                | (go_at_call 129; refine hname.mono ?_; rintro e w2 ⟨rfl, hk2⟩; have HK2 : Hid (Kept [] w w2) := HKA.out.then hk2; clear hk2))
              go_roundw
              case rel => exact ⟨k + 1, by omega, by go_num, HN', HK2⟩
              case measure => simp [intOf]; omega
            · have hnf : nameB e.name = false := by simpa using hnm
              have HF : Hid (faultT es = 32) := faultT_name (by omega) HMA.out (not_all he hnf)
              rw [hnf] at hname
              clear he hge hnm hnf
              generalize e.mode = md at *
              generalize strOfNums e.name = sn at *
              go_wp2_with (first
                | (refine wpList_load_mid (by rfl) 127 (.tmp 30) (by rfl) b (off + k * 34) (by rfl) er _ hr hun rfl hse ?_)
                | (refine wpList_store_new (by rfl) 127 (.tmp 6) (.tmp 31) (by rfl) wr _ er.toArray (by rfl) (by rfl) hsa (by rw [h34]; rfl) h1 ?_)
                | (go_at_call 129; refine hname.mono ?_; rintro e w2 ⟨rfl, hk2⟩; have HK2 : Hid (Kept [] w w2) := HKA.out.then hk2; clear hk2))
              go_ret
              exact ⟨by rw [HF.out]; rfl, HK2.out⟩
          · obtain rfl : k = es.length := by omega
            have HNA : Hid (es.all (fun e => nameB e.name) = true) := all_of fun i e he hi => HN.out i e he hi
            clear HN
            go_wp2
            go_loopw [7] (fun s7 wr => ∃ k : Nat, 1 ≤ k ∧ (k ≤ es.length ∨ k = 1) ∧ s7 = .int .i64 k ∧ Hid (∀ i, i + 1 < k → lessB (nameAt es i) (nameAt es (i + 1)) = true) ∧ Hid (Kept [] w wr)) (fun s7 _ => es.length - (intOf s7).toNat)
            case atStart => exact ⟨1, Nat.le_refl _, Or.inr rfl, rfl, fun i h => absurd h (by omega), HK⟩
            case round =>
              clear HK
              obtain ⟨k, hk1, hk, rfl, HA, HK⟩ := hrel
              by_cases hlt : k < es.length
              · obtain ⟨e, he⟩ : ∃ e, es[k]? = some e := ⟨_, List.getElem?_eq_getElem hlt⟩
                obtain ⟨e0, he0⟩ : ∃ e, es[k - 1]? = some e := ⟨_, List.getElem?_eq_getElem (by omega)⟩
                obtain ⟨ao', cap', hvv, _, _, hc⟩ := (HV.out wr HK.out).form
                injection hvv with e1 e2 e3
                subst e1 e3
                obtain ⟨b, off, rfl, hh⟩ := hc (by rintro rfl; simp at hlt)
                have c1 : wr.cell? ⟨b, off + k * 34 + 1, none⟩ = some (.string (strOfNums e.name)) := hh k e he 1 _ rfl
                have c0 : wr.cell? ⟨b, off + (k - 1) * 34 + 1, none⟩ = some (.string (strOfNums e0.name)) := hh (k - 1) e0 he0 1 _ rfl
                obtain ⟨j, rfl⟩ : ∃ j, k = j + 1 := ⟨k - 1, by omega⟩
                rw [Nat.add_sub_cancel] at c0 he0
                have hij : IntKind.i64.wrap (((j + 1 : Nat) : Int) - 1) = (j : Int) := by rw [IntKind.wrap_i64]; omega
                have HLB : Hid (lessB (nameAt es j) (nameAt es (j + 1)) = Op.bytesLess (strOfNums e0.name).toList (strOfNums e.name).toList) := by
                  unfold nameAt
                  rw [he, he0]
                  exact rfl
                clear hh hc
                generalize hbl : Op.bytesLess (strOfNums e0.name).toList (strOfNums e.name).toList = bl at *
                cases bl
                · have HF : Hid (faultT es = 33) := faultT_asc (by omega) HMA.out HNA.out (by
                    unfold ascB
                    rw [List.all_eq_false]
                    exact ⟨j, List.mem_range.2 (by omega), by rw [HLB.out]; simp⟩)
                  go_wp2
                  go_quiet (fail)
                  go_wp2
                  go_ret
                  exact ⟨by rw [HF.out]; rfl, HK.out.drewN _⟩
                · have HA' : Hid (∀ i, i + 1 < j + 1 + 1 → lessB (nameAt es i) (nameAt es (i + 1)) = true) := fun i hi => by
                    by_cases hij : i = j
                    · subst hij; exact HLB.out
                    · exact HA.out i (by omega)
                  have HKd : Hid (∀ n, Kept [] w (wr.drewN n)) := fun n => HK.out.drewN n
                  go_wp2
                  go_quiet (fail)
                  go_wp2
                  go_roundw
                  case rel => exact ⟨j + 1 + 1, by omega, Or.inl (by omega), by go_num, HA', HKd.out _⟩
                  case measure => simp [intOf]; omega
              · have HF : Hid (faultT es = 0) := faultT_ok (by omega) HMA.out HNA.out (by
                  unfold ascB
                  rw [List.all_eq_true]
                  intro i hi
                  exact HA.out i (by have := List.mem_range.1 hi; omega))
                go_wp2
                go_ret
                exact ⟨by rw [HF.out]; rfl, HK.out⟩
  · have HF : Hid (faultT es = 35) := faultT_many (by omega)
    have hd0 : decide (1024 < (es.length : Int)) = true := decide_eq_true (by omega)
    go_enter Tryz.func127, Tryz.ntmps127
    go_wp2
    go_ret
    exact ⟨by rw [HF.out]; rfl, Kept.refl _ _⟩
end Go.Proofs.YtddhhjgegkkjbaaGreatDoor

namespace Go.Proofs.YtddhhjgegkkjbaaGreatDoor
open Go.RowKit

def entB (e : EntL) : List Int := fixedB e.mode 1 ++ (varB e.name.length ++ e.name) ++ e.id
def entsB (es : List EntL) : List Int := es.flatMap entB
/-- A tree's encoding. -/
def encT (es : List EntL) : List Int := fixedB 2 1 ++ varB es.length ++ entsB es
theorem entsB_succ {es : List EntL} {k : Nat} {e : EntL} (h : es[k]? = some e) : entsB (es.take (k + 1)) = entsB (es.take k) ++ entB e := by
  have hlt : k < es.length := (List.getElem?_eq_some_iff.1 h).1
  have ho : es[k] = e := (List.getElem?_eq_some_iff.1 h).2
  unfold entsB
  rw [List.take_succ_eq_append_getElem hlt, List.flatMap_append, ho]
  simp
/-- A Writer on its way: what it holds, and what has turned since w0. -/
structure WSt (w0 W : World) (wb B : Nat) (zs : List Int) (S S' : List Nat) : Prop where
  at' : WAt W wb B zs S'
  keep : Kept S w0 W
  foot : ∀ x, x ∈ S' → x ∈ S ∨ w0.heap.size ≤ x
theorem WSt.next {w0 W W' : World} {wb B : Nat} {zs us : List Int} {S S' : List Nat} (h : WSt w0 W wb B zs S S') (k : Wrote W W' wb B us S') : ∃ S'', WSt w0 W' wb B us S S'' ∧ Kept S' W W' ∧ ∀ x, x ∈ S'' → x ∈ S' ∨ W.heap.size ≤ x := by
  obtain ⟨S'', hw, hk, hs⟩ := k
  refine ⟨S'', ⟨hw, h.keep.trans hk h.foot, fun x hx => ?_⟩, hk, hs⟩
  rcases hs x hx with h1 | h1
  · exact h.foot x h1
  · exact Or.inr (Nat.le_trans h.keep.size h1)
theorem WSt.kept {w0 W W' : World} {wb B : Nat} {zs : List Int} {S S' : List Nat} (h : WSt w0 W wb B zs S S') (k : Kept [] W W') : WSt w0 W' wb B zs S S' :=
  ⟨h.at'.kept k (by simp), h.keep.then (k.more (by simp)), h.foot⟩
theorem WSt.start {w : World} {wb B : Nat} {zs : List Int} {S : List Nat} (h : WAt w wb B zs S) : WSt w w wb B zs S S := ⟨h, Kept.refl _ _, fun _ hx => Or.inl hx⟩

end Go.Proofs.YtddhhjgegkkjbaaGreatDoor
