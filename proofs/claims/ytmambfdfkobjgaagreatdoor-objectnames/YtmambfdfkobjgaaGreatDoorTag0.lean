/-
  A Writer beside a variable; tags; WALKS: object.signFault, (object.tag).fault, (object.tag).write.
-/
import Derived.Test.YtmambfdfkobjgaaGreatDoorEnt4
namespace Go.Proofs.YtmambfdfkobjgaaGreatDoor
open Go.RowKit

/-- A Writer on its way, and a variable that it does not touch. -/
def WB (w0 W : World) (wb B : Nat) (zs : List Int) (S : List Nat) (b : Nat) (cs : Array Value) (ty : TypeId) : Prop := ∃ S', WSt w0 W wb B zs S S' ∧ b ∉ S' ∧ W.heap[b]? = some (.cells cs ty (0, 0))
section
variable {w0 W : World} {wb B : Nat} {zs : List Int} {S : List Nat} {b : Nat} {cs : Array Value} {ty : TypeId}
theorem WB.next {us : List Int} {S' : List Nat} (h : WSt w0 W wb B zs S S') (hb : b ∉ S') (hc : W.heap[b]? = some (.cells cs ty (0, 0))) {W' : World} (k : Wrote W W' wb B us S') : WB w0 W' wb B us S b cs ty := by
  obtain ⟨S'', h1, h2, h3⟩ := h.next k
  refine ⟨S'', h1, fun hx => ?_, h2.heap hc hb⟩
  rcases h3 b hx with h | h
  · exact hb h
  · exact absurd (lt_of_block hc) (by omega)
theorem WB.u8 (h : WB w0 W wb B zs S b cs ty) (hB : B ≤ w0.heap.size) (n : Int) (h0 : 0 ≤ n) (h1 : n ≤ 255) (hm : zs.length + 8 ≤ 140737488355328) :
    Calls Tryz.prog 116 #[.pointer (some ⟨wb, 0, none⟩), .int .u8 n] W fun e w' => e = .returned (.tuple #[]) ∧ WB w0 w' wb B (zs ++ fixedB n 1) S b cs ty := by
  obtain ⟨S', q, hb, hc⟩ := h
  exact (WU8_any q.at' (Nat.le_trans hB q.keep.size) n h0 h1 hm).mono fun e w' hh => ⟨hh.1, WB.next q hb hc hh.2⟩
theorem WB.u64 (h : WB w0 W wb B zs S b cs ty) (hB : B ≤ w0.heap.size) (n : Int) (hm : zs.length + 8 ≤ 140737488355328) :
    Calls Tryz.prog 131 #[.pointer (some ⟨wb, 0, none⟩), .int .u64 n] W fun e w' => e = .returned (.tuple #[]) ∧ WB w0 w' wb B (zs ++ fixedB n 8) S b cs ty := by
  obtain ⟨S', q, hb, hc⟩ := h
  exact (WU64_any q.at' (Nat.le_trans hB q.keep.size) n hm).mono fun e w' hh => ⟨hh.1, WB.next q hb hc hh.2⟩
theorem WB.var (h : WB w0 W wb B zs S b cs ty) (hB : B ≤ w0.heap.size) (n : Int) (h0 : 0 ≤ n) (h1 : n ≤ 18446744073709551615) (hm : zs.length + 10 ≤ 140737488355328) :
    Calls Tryz.prog 122 #[.pointer (some ⟨wb, 0, none⟩), .int .u64 n] W fun e w' => e = .returned (.tuple #[]) ∧ WB w0 w' wb B (zs ++ varB n) S b cs ty := by
  obtain ⟨S', q, hb, hc⟩ := h
  exact (WVar_any q.at' (Nat.le_trans hB q.keep.size) n h0 h1 hm).mono fun e w' hh => ⟨hh.1, WB.next q hb hc hh.2⟩
theorem WB.raw (h : WB w0 W wb B zs S b cs ty) (hB : B ≤ w0.heap.size) (v : Value) (ys : List Int) (hv : BytesAt W v ys) (ho : Octs ys) (hm : zs.length + ys.length ≤ 140737488355328) :
    Calls Tryz.prog 117 #[.pointer (some ⟨wb, 0, none⟩), v] W fun e w' => e = .returned (.tuple #[]) ∧ WB w0 w' wb B (zs ++ ys) S b cs ty := by
  obtain ⟨S', q, hb, hc⟩ := h
  exact (WRaw_any q.at' (Nat.le_trans hB q.keep.size) v ys hv ho hm).mono fun e w' hh => ⟨hh.1, WB.next q hb hc hh.2⟩
theorem WB.text (h : WB w0 W wb B zs S b cs ty) (hB : B ≤ w0.heap.size) (xs : List Int) (ho : Octs xs) (hm : zs.length + 10 + xs.length ≤ 140737488355328) :
    Calls Tryz.prog 123 #[.pointer (some ⟨wb, 0, none⟩), .string (strOfNums xs)] W fun e w' => e = .returned (.tuple #[]) ∧ WB w0 w' wb B (zs ++ varB xs.length ++ xs) S b cs ty := by
  obtain ⟨S', q, hb, hc⟩ := h
  exact (writeText_any q.at' (Nat.le_trans hB q.keep.size) xs ho hm).mono fun e w' hh => ⟨hh.1, WB.next q hb hc hh.2⟩
theorem WB.block (h : WB w0 W wb B zs S b cs ty) : W.heap[b]? = some (.cells cs ty (0, 0)) := h.elim fun _ q => q.2.2
theorem WB.wrote (h : WB w0 W wb B zs S b cs ty) : Wrote w0 W wb B zs S := h.elim fun _ q => q.1.wrote
end
theorem WB.start {w : World} {wb B : Nat} {zs : List Int} {S : List Nat} (h : WAt w wb B zs S) (cs : Array Value) (ty : TypeId) : WB w (w.alloc (.cells cs ty)) wb B zs S w.heap.size cs ty :=
  ⟨S, (WSt.start h).kept ((Kept.refl _ _).alloc _), fun hx => Nat.lt_irrefl _ (h.lt _ hx).2, heap_alloc_new w _⟩

structure TagL where
  target : List Int
  kind : Int
  name : List Int
  who : List Int
  time : Int
  text : List Int
def TagL.row (t : TagL) : List Value := t.target.map (Value.int .u8) ++ [.int .i64 t.kind, .string (strOfNums t.name), .string (strOfNums t.who), .int .u64 t.time, .string (strOfNums t.text)]
structure TagL.Good (t : TagL) : Prop where
  target : GoodID t.target
  lo : -9223372036854775808 ≤ t.kind
  hi : t.kind ≤ 9223372036854775807
  name : GoodText t.name
  who : GoodText t.who
  t0 : 0 ≤ t.time
  t1 : t.time ≤ 18446744073709551615
  text : GoodText t.text
theorem tag_cells {w : World} {b : Nat} {t : TagL} {ty : TypeId} {fr : Nat × Nat} (hl : t.target.length = 32) (h : w.heap[b]? = some (.cells t.row.toArray ty fr)) :
    w.rangeAt b 0 (t.target.map (Value.int .u8)) ∧ w.cell? ⟨b, 32, none⟩ = some (.int .i64 t.kind) ∧ w.cell? ⟨b, 33, none⟩ = some (.string (strOfNums t.name)) ∧ w.cell? ⟨b, 34, none⟩ = some (.string (strOfNums t.who)) ∧
      w.cell? ⟨b, 35, none⟩ = some (.int .u64 t.time) ∧ w.cell? ⟨b, 36, none⟩ = some (.string (strOfNums t.text)) := by
  have hr := row_range h
  have hlm : (t.target.map (Value.int .u8)).length = 32 := by rw [List.length_map, hl]
  have key : ∀ j v, [Value.int .i64 t.kind, .string (strOfNums t.name), .string (strOfNums t.who), .int .u64 t.time, .string (strOfNums t.text)][j]? = some v → w.cell? ⟨b, 32 + j, none⟩ = some v := fun j v hj => by
    have := hr (32 + j) v (by unfold TagL.row; rw [List.getElem?_append_right (by omega), hlm, Nat.add_sub_cancel_left]; exact hj)
    rwa [Nat.zero_add] at this
  refine ⟨fun j v hj => hr j v ?_, key 0 _ rfl, key 1 _ rfl, key 2 _ rfl, key 3 _ rfl, key 4 _ rfl⟩
  unfold TagL.row
  rw [List.getElem?_append_left (List.getElem?_eq_some_iff.1 hj).1]
  exact hj

def signB (who : List Int) (time : Int) (text : List Int) : Bool := lineB who 255 && decide (time ≤ 1099511627776) && decide (text.length ≤ 4096)
def faultG (t : TagL) : Int := if modeB t.kind = false then 30 else if nameB t.name = false then 32 else if signB t.who t.time t.text = false then 36 else 0

set_option maxRecDepth 100000 in
set_option maxHeartbeats 1000000 in
theorem signFault_any (who : List Int) (time : Int) (text : List Int) (w : World) (hT : Tabs w) (hw : GoodText who) (h0 : 0 ≤ time) (h1 : time ≤ 18446744073709551615) :
    Calls Tryz.prog 130 #[.string (strOfNums who), .int .u64 time, .string (strOfNums text)] w fun e w' => e = .returned (.int .i64 (if signB who time text = false then 36 else 0)) ∧ Kept [] w w' := by
  have hline := goodLine_any who hw.1 255 w (Nat.le_trans hw.2 (by decide)) hT
  have hsz := strOfNums_size text
  obtain ⟨rv, hrv⟩ : ∃ rv : Int, rv = if signB who time text = false then 36 else 0 := ⟨_, rfl⟩
  rw [← hrv]
  have HS : Hid (rv = if (lineB who 255 && decide (time ≤ 1099511627776) && decide (text.length ≤ 4096)) = false then 36 else 0) := hrv
  clear hrv
  have hd1 : decide (1099511627776 < time) = !decide (time ≤ 1099511627776) := by rw [← decide_not]; exact decide_eq_decide.2 (by omega)
  have hd2 : decide ((4096 : Int) < (text.length : Int)) = !decide (text.length ≤ 4096) := by rw [← decide_not]; exact decide_eq_decide.2 (by omega)
  generalize strOfNums who = sw at *
  generalize strOfNums text = st at *
  generalize lineB who 255 = b1 at *
  generalize decide (time ≤ 1099511627776) = b2 at *
  generalize decide (text.length ≤ 4096) = b3 at *
  clear hw hT
  cases b1 <;> cases b2 <;> cases b3
  all_goals go_enter Tryz.func130, Tryz.ntmps130
  all_goals go_wp2_with (go_at_call 30; refine hline.mono ?_; rintro e w1 ⟨rfl, hk1⟩; have HK1 : Hid _ := hk1; clear hk1)
  all_goals go_ret
  all_goals exact ⟨by rw [HS.out]; rfl, HK1.out⟩
end Go.Proofs.YtmambfdfkobjgaaGreatDoor
