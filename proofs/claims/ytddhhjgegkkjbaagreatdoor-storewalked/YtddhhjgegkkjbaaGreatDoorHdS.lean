/-
  WALKS: object.read, object.objectOf, object.Parse, of a blob's encoding alone (where the program knows no more of objects).
  LISTS OF BYTES AND OF INTEGERS OPENED: what a reading of them says of memory, and how much it weighs.
  LISTS OF STRUCTS OPENED, whatever the struct: what a reading of one says of memory.
  WALK: satchelref0.Copy, for every slice of bytes.
  WALKS: satchelref0.Cmp and Eq over two slices of the same bytes; satchellaw1.into.
  A LAW's call out of a contract that is told of the laid variables and of the world's shape too. No Go text is named here.
-/
import Derived.Test.YtddhhjgegkkjbaaGreatDoorConv
import Derived.Test.YtddhhjgegkkjbaaGreatDoorSha2
import Derived.Laws.Tables
import Derived.Laws.ResultCell
import Derived.Deep.MidRow
import Derived.Test.YtddhhjgegkkjbaaGreatDoorRows
import Derived.Test.YtddhhjgegkkjbaaGreatDoorPlain
import Derived.ProofKit
import Derived.OpenShut
import Derived.SizedLaws
import Derived.Deep.Slices
import Derived.Test.YtddhhjgegkkjbaaGreatDoorCopied
import Derived.Test.YtddhhjgegkkjbaaGreatDoorPlain2
import Derived.Deep.QuietTactic
import Derived.BigQuiet
import Derived.Handed
namespace Go.Proofs.YtddhhjgegkkjbaaGreatDoor
open Go.RowKit

theorem wpList_build_someP {ops : Array Oper} {rest : List Oper} {o : Oper} {a : Act} {w : World} {Q : Exit → Act → World → Prop} (hgd : o.guard = none) (t : TypeId) (parts : Array (Nat × Operand)) (ho : o.op = .build t parts) (cells : Array Value)
    (hb : Tryz.prog.built t (parts.map fun (i, x) => (i, a.eval x)).toList = some cells) (h : wpList Tryz.prog ops Q rest (a.put o.dst (.agg cells)) w) : wpList Tryz.prog ops Q (o :: rest) a w := by
  refine wpList_build hgd t parts ho (by rw [hb]; rfl) ?_
  rw [hb]
  exact h

theorem take_raw (xs : List Int) (pl : Nat) : takeL xs pl 0 3 (xs.drop pl).length 0 = ⟨0, xs.drop pl, pl + (xs.drop pl).length, 0⟩ := by
  have e : lookL (xs.drop pl) 3 (xs.drop pl).length 0 = ⟨0, 0, (xs.drop pl).length, 0⟩ := by
    show rawL (xs.drop pl) (xs.drop pl).length = _
    unfold rawL
    rw [if_neg (by omega), if_neg (by omega), Int.toNat_natCast]
  unfold takeL
  rw [if_neg (by decide), e, if_neg (by simp)]
  simp only [List.drop_zero]
  rw [List.take_of_length_le (Nat.le_refl _)]
theorem take_one (x : Int) (ys : List Int) : takeL (x :: ys) 0 0 0 1 0 = ⟨x, [], 1, 0⟩ := by
  have e : lookL ((x :: ys).drop 0) 0 1 0 = ⟨x, 1, 1, 0⟩ := by
    unfold lookL
    rw [if_pos rfl]
    show fixedL (x :: ys) 1 = _
    unfold fixedL
    rw [if_neg (by simp)]
    simp [be]
  unfold takeL
  rw [if_neg (by decide), e, if_neg (by simp)]
  simp
theorem kept_newP {w W W' : World} {b : Nat} (h : Kept [] w W) (k : Kept [b] W W') (hb : w.heap.size ≤ b) : Kept [] w W' := h.trans k fun x hx => Or.inr (by rw [List.mem_singleton.1 hx]; exact hb)
theorem methP_blob_fault (n : Nat) (v : Value) (W : World) : (method (n + 1) 98 v "satchel/object.fault").run Tryz.prog W = .ok (124, v) W := by kernel_rfl
theorem blobFaultP (ao : Option Addr) (n c : Nat) (w : World) (h : n < 65536) :
    Calls Tryz.prog 124 #[.slice ao n c] w fun e w' => e = .returned (.int .i64 0) ∧ Kept [] w w' := by
  have t : decide (65536 < 1 + (n : Int)) = false := by simp; omega
  go_enter Tryz.func124, Tryz.ntmps124
  go_wp2
  go_ret
  exact ⟨rfl, Kept.refl _ _⟩

set_option maxRecDepth 100000 in
set_option maxHeartbeats 4000000 in
theorem readBlobP (v : Value) (xs ys : List Int) (w : World) (hx : xs = 1 :: ys) (hv : BytesAt w v xs) (ho : Octs xs) (hl : xs.length ≤ 65536) :
    Calls Tryz.prog 34 #[v] w fun e w' => ∃ q, e = .returned (.tuple #[.iface 98 (.slice (some ⟨q, 0, none⟩) (xs.length - 1) (xs.length - 1)), .int .i64 0]) ∧ Kept [] w w' := by
  have hread := Read_any v xs w hv (by omega) ho
  have hpos : 0 < xs.length := by rw [hx]; exact Nat.succ_pos _
  have h0 : takeL xs 0 0 0 1 0 = ⟨1, [], 1, 0⟩ := by rw [hx]; exact take_one 1 ys
  have HU8 : Hid (∀ W r g, Rdr W r g xs 0 0 → Calls Tryz.prog 48 #[.pointer (some ⟨r, 0, none⟩)] W fun e w' => e = .returned (.int .u8 1) ∧ Rdr w' r g xs 1 0 ∧ Kept [r] W w') := fun W r g q => U8_any q ⟨1, [], 1, 0⟩ h0.symm
  have hdl : (xs.drop 1).length = xs.length - 1 := List.length_drop
  have hb := take_raw xs 1
  have HRAW : Hid (∀ W r g, Rdr W r g xs 1 0 → Calls Tryz.prog 49 #[.pointer (some ⟨r, 0, none⟩), .int .i64 ((xs.length : Int) - 1)] W fun e w' => ∃ q, e = .returned (.slice (some ⟨q, 0, none⟩) (xs.length - 1) (xs.length - 1)) ∧ Rdr w' r g xs xs.length 0 ∧ Kept [r] W w') := fun W r g q => by
    have h := Raw_any q ((xs.length : Int) - 1) (by omega) ⟨0, xs.drop 1, 1 + (xs.drop 1).length, 0⟩ (by show _ = _; rw [← hb, hdl]; congr 1; omega)
    refine h.mono ?_
    rintro e w' ⟨q1, he, _, _, hR, hk⟩
    dsimp only at he hR
    rw [hdl] at he hR
    rw [show 1 + (xs.length - 1) = xs.length by omega] at hR
    exact ⟨q1, he, hR, hk⟩
  have HEND : Hid (∀ W r g, Rdr W r g xs xs.length 0 → Calls Tryz.prog 54 #[.pointer (some ⟨r, 0, none⟩)] W fun e w' => e = .returned (.int .i64 0) ∧ ∃ n, w' = W.drewN n) := fun W r g q => by
    have h := End_any q (by decide)
    rw [if_neg (by decide), if_neg (by omega)] at h
    exact h
  have HFB : Hid (∀ W q, Calls Tryz.prog 124 #[.slice (some ⟨q, 0, none⟩) (xs.length - 1) (xs.length - 1)] W fun e w' => e = .returned (.int .i64 0) ∧ Kept [] W w') := fun W q => blobFaultP _ _ _ W (by omega)
  have hm1 := methP_blob_fault
  have hlx : decide (65536 < (xs.length : Int)) = false := decide_eq_false (by omega)
  obtain ⟨ao, cap, rfl, _⟩ := hv
  clear hb h0 ho hdl hx
  go_enter Tryz.func34, Tryz.ntmps34
  go_wp2_with (first
    | (go_at_call 47; refine hread.mono ?_; rintro e w1 ⟨r, g, rfl, hr1, hk1, hrs, hgs⟩
       have HR1 : Hid (Rdr w1 r g xs 0 0) := hr1
       have HK1 : Hid (Kept [] w w1) := hk1
       clear hr1 hk1)
    | (go_at_call 48; refine (HU8.out _ r g HR1.out).mono ?_; rintro e w2 ⟨rfl, hr2, hk2⟩
       have HR2 : Hid (Rdr w2 r g xs 1 0) := hr2
       have HK2 : Hid (Kept [] w w2) := kept_newP HK1.out hk2 hrs
       have hlf := Left_any hr2
       clear hr2 hk2)
    | (go_at_call 50; refine hlf.mono ?_; rintro e w3 ⟨rfl, n3, hw3⟩
       have kd : Kept [] w2 w3 := by rw [hw3]; exact (Kept.refl [] w2).drewN n3
       have HR3 : Hid (Rdr w3 r g xs 1 0) := HR2.out.kept kd (by simp) (by simp)
       have HK3 : Hid (Kept [] w w3) := HK2.out.then kd
       clear hlf kd hw3)
    | (go_at_call 49; refine (HRAW.out _ r g HR3.out).mono ?_; rintro e w4 ⟨q, rfl, hr4, hk4⟩
       have HR4 : Hid (Rdr w4 r g xs xs.length 0) := hr4
       have HK4 : Hid (Kept [] w w4) := kept_newP HK3.out hk4 hrs
       clear hr4 hk4)
    | (go_at_call 54; refine (HEND.out _ r g HR4.out).mono ?_; rintro e w5 ⟨rfl, n5, hw5⟩
       have HK5 : Hid (Kept [] w w5) := by rw [hw5]; exact HK4.out.drewN n5
       clear hw5)
    | (go_at_call 124; refine (HFB.out _ q).mono ?_; rintro e w6 ⟨rfl, hk6⟩
       have HK6 : Hid (Kept [] w w6) := HK5.out.then hk6
       clear hk6))
  refine bodyPost_ret (v := .tuple #[.iface 98 (.slice (some ⟨q, 0, none⟩) (xs.length - 1) (xs.length - 1)), .int .i64 0]) (by simp [results, Tryz.results34, go_sem]) rfl ⟨q, rfl, HK6.out⟩

/-- The object of a blob, as its cells. -/
noncomputable def blobRow (q n : Nat) : Array Value := (Tryz.zeroCells61.setIfInBounds 0 (.int .i64 1)).setIfInBounds 1 (.slice (some ⟨q, 0, none⟩) n n)
theorem blobRow_size (q n : Nat) : (blobRow q n).size = 76 := by
  unfold blobRow
  rw [Array.size_setIfInBounds, Array.size_setIfInBounds]
  kernel_rfl
theorem blobRow_one (q n : Nat) : (blobRow q n).all (·.oneCell') = true := by kernel_rfl
theorem built_blobP (q n : Nat) : Tryz.prog.built 61 [(0, .int .i64 1), (1, .slice (some ⟨q, 0, none⟩) n n)] = some (blobRow q n) := by kernel_rfl
set_option maxRecDepth 100000 in
set_option maxHeartbeats 2000000 in
theorem objectOfP (q n : Nat) (w : World) :
    Calls Tryz.prog 35 #[.iface 98 (.slice (some ⟨q, 0, none⟩) n n)] w fun e w' => e = .returned (.agg (blobRow q n)) ∧ Kept [] w w' := by
  have hbl := built_blobP q n
  have hoz := blobRow_size q n
  have hos : (Tryz.prog.info? 61).map (·.size) = some (blobRow q n).size := by rw [hoz]; kernel_rfl
  have hzz : Tryz.zeroCells61.size = (blobRow q n).size := by rw [hoz]; kernel_rfl
  have hpo := blobRow_one q n
  have HZ : Hid ((w.alloc (.cells Tryz.zeroCells61 61)).heap[w.heap.size]? = some (.cells Tryz.zeroCells61 61 (0, 0))) := heap_alloc_new w _
  have HKF : Hid (Kept [] w ((w.alloc (.cells Tryz.zeroCells61 61)).setRow w.heap.size (blobRow q n))) := kept_setRow ((Kept.refl [] w).alloc _) (Nat.le_refl _) _
  generalize blobRow q n = orr at *
  have ta1 : ∀ W, (Instr.typeAssert (.iface 98 (.slice (some ⟨q, 0, none⟩) n n)) 81 98 true).run Tryz.prog W = .ok (.tuple #[.slice (some ⟨q, 0, none⟩) n n, .bool true]) W := fun W => by kernel_rfl
  go_enter Tryz.func35, Tryz.ntmps35
  go_wp2_with (first
    | (refine wpList_build_someP (by rfl) 61 _ (by rfl) orr (by simp; exact hbl) ?_)
    | (refine wpList_store_row (by rfl) 61 (.tmp 2) (.tmp 12) (by rfl) w.heap.size orr (by rfl) (by rfl) 61 _ HZ.out hos hzz hpo ?_))
  refine bodyPost_ret (v := .agg orr) ?_ rfl ⟨rfl, HKF.out⟩
  rw [results_cell rfl]
  exact run_loadVar_row (P := Tryz.prog) _ w.heap.size 61 61 orr (0, 0) _ (setRow_heap _ _ _ _ _ _ HZ.out) Tryz.underlying61 rfl hos
set_option maxRecDepth 100000 in
set_option maxHeartbeats 4000000 in
/-- object.Parse of a blob's encoding. -/
theorem parseP (v : Value) (xs ys : List Int) (w : World) (hx : xs = 1 :: ys) (hv : BytesAt w v xs) (ho : Octs xs) (hl : xs.length ≤ 65536) :
    Calls Tryz.prog 23 #[v] w fun e w' => ∃ q, e = .returned (.tuple #[.agg (blobRow q (xs.length - 1)), .int .i64 0]) ∧ Kept [] w w' := by
  have k0 : Kept [] w (w.alloc (.cells Tryz.zeroCells61 61)) := (Kept.refl _ _).alloc _
  have hrd := readBlobP v xs ys _ hx (hv.kept' k0 (fun _ _ _ => by simp)) ho hl
  have HK0 : Hid (Kept [] w (w.alloc (.cells Tryz.zeroCells61 61))) := k0
  have HZ : Hid ((w.alloc (.cells Tryz.zeroCells61 61)).heap[w.heap.size]? = some (.cells Tryz.zeroCells61 61 (0, 0))) := heap_alloc_new w _
  have hun := Tryz.underlying61
  obtain ⟨ao, cap, rfl, _⟩ := hv
  clear ho hl hx k0
  go_enter Tryz.func23, Tryz.ntmps23
  go_wp2_with fail
  go_at_call 34
  refine hrd.mono ?_
  rintro e w1 ⟨q, rfl, k1⟩
  have hob := objectOfP q (xs.length - 1)
  have hoz := blobRow_size q (xs.length - 1)
  have hos : (Tryz.prog.info? 61).map (·.size) = some (blobRow q (xs.length - 1)).size := by rw [hoz]; kernel_rfl
  have hzz : Tryz.zeroCells61.size = (blobRow q (xs.length - 1)).size := by rw [hoz]; kernel_rfl
  have hpo := blobRow_one q (xs.length - 1)
  have HK1 : Hid (Kept [] w w1) := HK0.out.then k1
  have HZ1 : Hid (w1.heap[w.heap.size]? = some (.cells Tryz.zeroCells61 61 (0, 0))) := k1.heap HZ.out (by simp)
  obtain ⟨orr, hor⟩ : ∃ r, r = blobRow q (xs.length - 1) := ⟨_, rfl⟩
  rw [← hor] at hob hos hzz hpo
  have HOR : Hid (orr = blobRow q (xs.length - 1)) := hor
  clear hrd k1 hoz hor
  go_wp2_with fail
  go_at_call 35
  refine (hob _).mono ?_
  rintro e w2 ⟨rfl, k2⟩
  have HK2 : Hid (Kept [] w w2) := HK1.out.then k2
  have HZ2 : Hid (w2.heap[w.heap.size]? = some (.cells Tryz.zeroCells61 61 (0, 0))) := k2.heap HZ1.out (by simp)
  clear hob k2
  go_wp2_with (refine wpList_store_row (by rfl) 61 (.tmp 2) (.tmp 16) (by rfl) w.heap.size orr (by rfl) (by rfl) 61 _ HZ2.out hos hzz hpo ?_)
  refine bodyPost_ret (v := .tuple #[.agg orr, .int .i64 0]) ?_ rfl ⟨q, by rw [← HOR.out], kept_setRow HK2.out (Nat.le_refl _) _⟩
  rw [results_cell_tmp rfl]
  have hld := run_loadVar_row (P := Tryz.prog) _ w.heap.size 61 61 orr (0, 0) _ (setRow_heap _ _ _ _ _ _ HZ2.out) hun rfl hos
  simp [asAddr, Result.andThen, hld]
end Go.Proofs.YtddhhjgegkkjbaaGreatDoor

namespace Go.Proofs.YtddhhjgegkkjbaaGreatDoor
open Go.ChangeShapes Go.WideShapes Go.ChangeAt Go.RowKit Go.Deep

theorem Tryz.cells_u8 : Tryz.prog.cellsOf 5 = 1 := by kernel_rfl
theorem Tryz.bytes_u8 : Tryz.prog.bytesOf 5 = 1 := by kernel_rfl
theorem Tryz.cells_int : Tryz.prog.cellsOf 3 = 1 := by kernel_rfl

section
variable {H : Type} {enc : TypeId × Value → H} {w : World} {base : Nat} {spare : Nat → Bool} {held : Bool} {fuel : Nat} {cs : List Value} {x : DataW H × List MemPlace}

theorem octs_wf {zs : List Int} (h : ∀ n ∈ zs, (Lit.int .u8 n).wf = true) : Octs zs := fun u hu => by
  have h1 := h u hu
  have e1 : IntKind.u8.min = 0 := rfl
  have e2 : IntKind.u8.max = 255 := rfl
  simp only [Lit.wf, Bool.and_eq_true, decide_eq_true_eq, e1, e2] at h1
  omega
theorem i64_wf {n : Int} (h : (Lit.int .i64 n).wf = true) : -9223372036854775808 ≤ n ∧ n ≤ 9223372036854775807 := by
  have e1 : IntKind.i64.min = -9223372036854775808 := rfl
  have e2 : IntKind.i64.max = 9223372036854775807 := rfl
  simp only [Lit.wf, Bool.and_eq_true, decide_eq_true_eq, e1, e2] at h
  omega
theorem bulk_length (l : List (DataW H)) : l.length ≤ Rows.uptoBulkAll l := by
  induction l with
  | nil => simp [Rows.uptoBulkAll]
  | cons d r ih =>
    have h1 : 1 ≤ Rows.uptoBulk d := by
      cases d with
      | lit l => cases l <;> simp [Rows.uptoBulk]
      | nil => simp [Rows.uptoBulk]
      | ptr d => simp [Rows.uptoBulk]
      | slice elems spare => simp [Rows.uptoBulk]
      | agg parts => simp [Rows.uptoBulk]
      | iface t d => simp [Rows.uptoBulk]
      | map entries => simp [Rows.uptoBulk]
      | held h => simp [Rows.uptoBulk]
    simp only [Rows.uptoBulkAll, List.length_cons]
    omega

theorem open_bytes (h : DataW.trod enc Tryz.prog w base spare held fuel 37 cs = some x) :
    ∃ ao cap ys, cs = [.slice ao ys.length cap] ∧ BytesAt w (.slice ao ys.length cap) ys ∧ Octs ys ∧ (∀ B, (DataW.weights Tryz.prog 37 x.1).all (· ≤ B) = true → ys.length ≤ B) ∧ ys.length + 1 ≤ Rows.uptoBulk x.1 := by
  rcases open_ints Tryz.underlying37 Tryz.underlying5 Tryz.cells_u8 h with ⟨rfl, rfl⟩ | ⟨a, len, cap, zs, rfl, _, hl, hm, hz, rfl, hcell, hwz⟩
  · exact ⟨none, 0, [], rfl, BytesAt.nil w, fun u hu => by simp at hu, fun _ _ => Nat.zero_le _, by simp [Rows.uptoBulk]⟩
  · have hlz : len ≤ zs.length := by rw [hz]; split <;> omega
    have hy : (zs.take len).length = len := by simp; omega
    refine ⟨some a, cap, zs.take len, by rw [hy], ?_, fun u hu => octs_wf hwz u (List.mem_of_mem_take hu), fun B hB => ?_, ?_⟩
    · refine ⟨some a, cap, rfl, by rw [hy]; exact hl, fun e => (by simp at e), fun hne => ?_⟩
      have hpos : 0 < zs.length := by
        rcases Nat.eq_zero_or_pos zs.length with h0 | h0
        · rw [List.eq_nil_of_length_eq_zero h0] at hne; simp at hne
        · exact h0
      obtain ⟨b, off, rfl, hc⟩ := ints_at hcell hpos
      refine ⟨b, off, rfl, fun i u hu => ?_⟩
      have hi : i < (zs.take len).length := (List.getElem?_eq_some_iff.1 hu).1
      rw [hy] at hi
      rw [hc i (by omega)]
      rw [List.getElem?_take_of_lt hi] at hu
      simp [List.getD, hu]
    · rw [hy]
      simp only [DataW.weights, Tryz.underlying37, Tryz.bytes_u8, List.all_cons, Bool.and_eq_true, decide_eq_true_eq, lits, List.length_map, List.length_take, List.length_drop] at hB
      omega
    · have h1 := bulk_length (lits (H := H) .u8 (zs.take len))
      simp only [Rows.uptoBulk]
      simp only [lits, List.length_map] at h1 ⊢
      omega
end
end Go.Proofs.YtddhhjgegkkjbaaGreatDoor

namespace Go.Proofs.YtddhhjgegkkjbaaGreatDoor
open Go.ChangeShapes Go.WideShapes Go.ChangeAt Go.RowKit Go.Deep

section
variable {H : Type} {enc : TypeId × Value → H} {w : World} {base : Nat} {spare : Nat → Bool} {held : Bool} {fuel : Nat} {cs : List Value} {x : DataW H × List MemPlace}
theorem weights_each (e : TypeId) (l : List (DataW H)) (B : Nat) (h : (DataW.weightsAll Tryz.prog e l).all (· ≤ B) = true) : ∀ d, d ∈ l → (DataW.weights Tryz.prog e d).all (· ≤ B) = true := by
  induction l with
  | nil => intro d hd; simp at hd
  | cons a l ih =>
    intro d hd
    simp only [DataW.weightsAll, List.all_append, Bool.and_eq_true] at h
    rcases List.mem_cons.1 hd with rfl | hd
    · exact h.1
    · exact ih h.2 d hd

theorem bulk_mem (l : List (DataW H)) (d : DataW H) (h : d ∈ l) : Rows.uptoBulk d ≤ Rows.uptoBulkAll l := by
  induction l with
  | nil => cases h
  | cons a l ih =>
    simp only [Rows.uptoBulkAll]
    rcases List.mem_cons.1 h with rfl | h
    · omega
    · have := ih h
      omega

set_option maxRecDepth 100000 in
/-- A list of structs of k cells, opened: each element is a thing of its own that lies in the list's row. -/
theorem open_rowlU {t e : TypeId} {k : Nat} {α : Type} [Inhabited α] (row : α → List Value) (G : α → Prop) (K : α → Nat) (B : Nat) (ht : Tryz.prog.underlying t = some (.slice e)) (hk : Tryz.prog.cellsOf e = k) (hk0 : 0 < k)
    (h : DataW.trod enc Tryz.prog w base spare held fuel t cs = some x)
    (hel : ∀ fuel cs x, DataW.trod enc Tryz.prog w base spare held fuel e cs = some x → ∃ a : α, cs = row a ∧ ((DataW.weights Tryz.prog e x.1).all (· ≤ B) = true → G a) ∧ K a ≤ Rows.uptoBulk x.1) :
    ∃ ao cap ls, cs = [.slice ao ls.length cap] ∧ ls.length ≤ cap ∧ (ao = none → cap = 0) ∧ (ls ≠ [] → ∃ b off, ao = some ⟨b, off, none⟩ ∧ ∀ (i : Nat) (a : α), ls[i]? = some a → w.rangeAt b (off + i * k) (row a)) ∧
      ((DataW.weights Tryz.prog t x.1).all (· ≤ B) = true → ls.length * Tryz.prog.bytesOf e ≤ B ∧ ∀ a, a ∈ ls → G a) ∧ ∀ a, a ∈ ls → K a ≤ Rows.uptoBulk x.1 := by
  rcases open_slice ht h with ⟨rfl, rfl⟩ | ⟨a, len, cap, m, n, D, Pl, rfl, _, hl, hm, hmm, rfl, hee⟩
  · exact ⟨none, 0, [], rfl, Nat.le_refl _, fun _ => rfl, fun e => absurd rfl e, fun _ => ⟨by simp, fun a ha => by cases ha⟩, fun a ha => by cases ha⟩
  · have hlm : len ≤ m := by rw [hmm]; split <;> omega
    have hop : ∀ i, i < len → ∃ o : α, w.cells? base (a.add (i * k)) k = some (row o) ∧ ((DataW.weights Tryz.prog e (D i)).all (· ≤ B) = true → G o) ∧ K o ≤ Rows.uptoBulk (D i) := by
      intro i hi
      obtain ⟨cs', hc, hte⟩ := hee i (by omega)
      rw [hk] at hc
      obtain ⟨o, rfl, hg⟩ := hel _ _ _ hte
      exact ⟨o, hc, hg⟩
    obtain ⟨O, hO⟩ := choose_lt hop
    have hlen : ((List.range len).map O).length = len := by simp
    refine ⟨some a, cap, (List.range len).map O, by rw [hlen], by rw [hlen]; exact hl, fun e => by simp at e, fun hne => ?_, fun hB => ?_, fun o ho => ?_⟩
    · have hpos : 0 < len := by
        rcases Nat.eq_zero_or_pos len with h0 | h0
        · subst h0; simp at hne
        · exact h0
      obtain ⟨b, off, spot⟩ := a
      have hl0 := (World.cells?_some (hO 0 hpos).1)
      have hspot : spot = none := by
        have h1 := hl0.2.2 0 hk0
        have hg0 : (row (O 0)).length = k := hl0.2.1
        obtain ⟨c0, hc0⟩ : ∃ c, (row (O 0))[0]? = some c := ⟨(row (O 0))[0], List.getElem?_eq_getElem (by omega)⟩
        rw [hc0] at h1
        simpa [Addr.add] using World.cell?_spot h1
      subst hspot
      refine ⟨b, off, rfl, fun i o ho => ?_⟩
      have hi : i < len := by have := (List.getElem?_eq_some_iff.1 ho).1; omega
      have eo : O i = o := by simpa [hi] using ho
      have hc := World.cells?_some (hO i hi).1
      rw [eo] at hc
      intro j c hj
      have hjk : j < k := by have := (List.getElem?_eq_some_iff.1 hj).1; have := hc.2.1; omega
      have h1 := hc.2.2 j hjk
      rw [hj] at h1
      simpa [Addr.add_mid] using h1
    · simp only [DataW.weights, ht, List.all_cons, List.all_append, Bool.and_eq_true, decide_eq_true_eq, List.length_map, List.length_range] at hB
      obtain ⟨hB1, hB2, _⟩ := hB
      refine ⟨?_, ?_⟩
      · rw [hlen]
        have : len * Tryz.prog.bytesOf e ≤ (len + (m - len)) * Tryz.prog.bytesOf e := Nat.mul_le_mul_right _ (by omega)
        omega
      · intro o ho
        simp only [List.mem_map, List.mem_range] at ho
        obtain ⟨i, hi, rfl⟩ := ho
        exact (hO i hi).2.1 (weights_each _ _ _ hB2 _ (List.mem_map.2 ⟨i, List.mem_range.2 (by omega), rfl⟩))
    · simp only [List.mem_map, List.mem_range] at ho
      obtain ⟨i, hi, rfl⟩ := ho
      have h1 := (hO i hi).2.2
      have h2 := bulk_mem _ (D i) (List.mem_map.2 ⟨i, List.mem_range.2 hi, rfl⟩ : D i ∈ (List.range len).map D)
      simp only [Rows.uptoBulk]
      omega
theorem open_rowl {t e : TypeId} {k : Nat} {α : Type} [Inhabited α] (row : α → List Value) (G : α → Prop) (B : Nat) (ht : Tryz.prog.underlying t = some (.slice e)) (hk : Tryz.prog.cellsOf e = k) (hk0 : 0 < k)
    (h : DataW.trod enc Tryz.prog w base spare held fuel t cs = some x)
    (hel : ∀ fuel cs x, DataW.trod enc Tryz.prog w base spare held fuel e cs = some x → ∃ a : α, cs = row a ∧ ((DataW.weights Tryz.prog e x.1).all (· ≤ B) = true → G a)) :
    ∃ ao cap ls, cs = [.slice ao ls.length cap] ∧ ls.length ≤ cap ∧ (ao = none → cap = 0) ∧ (ls ≠ [] → ∃ b off, ao = some ⟨b, off, none⟩ ∧ ∀ (i : Nat) (a : α), ls[i]? = some a → w.rangeAt b (off + i * k) (row a)) ∧
      ((DataW.weights Tryz.prog t x.1).all (· ≤ B) = true → ls.length * Tryz.prog.bytesOf e ≤ B ∧ ∀ a, a ∈ ls → G a) := by
  obtain ⟨ao, cap, ls, h1, h2, h3, h4, h5, _⟩ := open_rowlU row G (fun _ => 0) B ht hk hk0 h (fun f c x hx => by
    obtain ⟨a, h1, h2⟩ := hel f c x hx
    exact ⟨a, h1, h2, Nat.zero_le _⟩)
  exact ⟨ao, cap, ls, h1, h2, h3, h4, h5⟩
end
end Go.Proofs.YtddhhjgegkkjbaaGreatDoor

namespace Go.Proofs.YtddhhjgegkkjbaaGreatDoor
open Go.RowKit

set_option maxHeartbeats 400000 in
theorem Copy_any (v : Value) (ys : List Int) (w : World) (h : BytesAt w v ys) (hm : ys.length ≤ 140737488355328) :
    Calls Tryz.prog 20 #[v] w fun e w' => e = .returned (.slice (some ⟨w.heap.size, 0, none⟩) ys.length ys.length) ∧
      w'.heap[w.heap.size]? = some (.cells (ys.map (Value.int .u8)).toArray 5 (0, 0)) ∧ Kept [] w w' := by
  obtain ⟨ao, cap, rfl, hc, hnil, hcell⟩ := h
  have hmk := run_make_row' (P := Tryz.prog) 37 5 (.int .u8 0) 1 Tryz.underlying37 Tryz.info_u8 rfl .i64 .i64 ys.length (by omega) (by omega)
  obtain ⟨cs, hcs⟩ : ∃ cs, cs = ys.map (Value.int .u8) := ⟨_, rfl⟩
  have HC : Hid (cs = ys.map (Value.int .u8)) := hcs
  clear hcs
  go_enter Tryz.func20, Tryz.ntmps20
  go_wp2_with (refine wpList_copy_splice rfl (.tmp 7) (.tmp 8) 37 37 rfl 5 Tryz.underlying37 Tryz.size_u8 _ _ _ _ _ _ rfl rfl w.heap.size 0 (List.replicate ys.length (.int .u8 0)) 5 ?cg cs ?cn ?cp ?cf ?co w.heap.size w ?cb (Nat.le_refl _) ?_)
  case cg => rw [← toList_madeCells_one]; exact heap_alloc_new w _
  case cn => rw [HC.out]; simp
  case cp =>
    intro h0
    rw [HC.out] at h0
    obtain ⟨b, off, rfl, hh⟩ := hcell (by rintro rfl; simp at h0)
    refine ⟨_, rfl, fun j u hu => ?_⟩
    rw [HC.out] at hu
    simp only [List.getElem?_map, Option.map_eq_some_iff] at hu
    obtain ⟨z, hz, rfl⟩ := hu
    rw [Addr.add_mid, World.cell?_alloc_lt]
    · exact hh j z hz
    · exact World.block_lt_of_cell? w _ (hh j z hz)
  case cf => rw [HC.out]; simp
  case co => rw [HC.out]; exact map_oneCell ys
  case cb => exact (Below.refl _ _).alloc (Nat.le_refl _) _
  intro w2 hg hb
  go_wp2
  go_ret
  refine ⟨rfl, ?_, kept_of_below hb⟩
  rw [hg.out, splice_all _ _ _ (by rw [HC.out]; simp), HC.out]
end Go.Proofs.YtddhhjgegkkjbaaGreatDoor

namespace Go.Proofs.YtddhhjgegkkjbaaGreatDoor
open Go.RowKit

theorem cmp_empty (ao bo : Option Addr) (ca cb : Nat) (w : World) : Calls Tryz.prog 46 #[.slice ao 0 ca, .slice bo 0 cb] w fun e w' => e = .returned (.int .i64 0) ∧ ∃ n, w' = w.drewN n := by
  go_enter Tryz.func46, Tryz.ntmps46
  go_wp2
  refine wp_loop_rounds 1 ?_
  rw [rounds_succ]
  go_wp2
  go_ret
  exact ⟨rfl, 0, rfl⟩

set_option maxHeartbeats 1000000 in
theorem cmp_some (b1 o1 c1 b2 o2 c2 : Nat) (ys : List Int) (w : World) (hm : ys.length ≤ 140737488355328)
    (h1 : ∀ i, i < ys.length → w.cell? ⟨b1, o1 + i, none⟩ = some (.int .u8 (ys[i]?.getD 0))) (h2 : ∀ i, i < ys.length → w.cell? ⟨b2, o2 + i, none⟩ = some (.int .u8 (ys[i]?.getD 0))) :
    Calls Tryz.prog 46 #[.slice (some ⟨b1, o1, none⟩) ys.length c1, .slice (some ⟨b2, o2, none⟩) ys.length c2] w fun e w' => e = .returned (.int .i64 0) ∧ ∃ n, w' = w.drewN n := by
  go_enter Tryz.func46, Tryz.ntmps46
  go_wp2
  go_loopw [5] (fun i wr => ∃ k : Nat, k ≤ ys.length ∧ i = .int .i64 k ∧ ∃ n, wr = w.drewN n) (fun i _ => ys.length - (intOf i).toNat)
  case atStart => exact ⟨0, Nat.zero_le _, rfl, 0, rfl⟩
  case round =>
    obtain ⟨k, hk, rfl, n, rfl⟩ := hrel
    by_cases hlt : k < ys.length
    · have g1 := h1 k hlt
      have g2 := h2 k hlt
      obtain ⟨z, hz⟩ : ∃ z, z = ys[k]?.getD 0 := ⟨_, rfl⟩
      rw [← hz] at g1 g2
      clear hz h1 h2
      have i0 : (0 : Int) ≤ (k : Int) := by omega
      have i1 : (k : Int) < (ys.length : Int) := by omega
      go_wp2
      go_quiet (fail)
      go_wp2
      go_quiet (fail)
      go_wp2
      go_roundw
      case rel => exact ⟨k + 1, by omega, by go_num, _, rfl⟩
      case measure => simp [intOf]; omega
    · clear h1 h2
      go_wp2
      go_ret
      exact ⟨rfl, _, rfl⟩

theorem Cmp_same {w : World} {u v : Value} {ys : List Int} (hu : BytesAt w u ys) (hv : BytesAt w v ys) (hm : ys.length ≤ 140737488355328) : Calls Tryz.prog 46 #[u, v] w fun e w' => e = .returned (.int .i64 0) ∧ ∃ n, w' = w.drewN n := by
  rcases hu.parts with ⟨rfl, ao, ca, rfl⟩ | ⟨b1, o1, c1, rfl, _, h0, h1⟩
  · obtain ⟨bo, cb, rfl, _⟩ := hv
    exact cmp_empty ao bo ca cb w
  · rcases hv.parts with ⟨rfl, bo, cb, rfl⟩ | ⟨b2, o2, c2, rfl, _, _, h2⟩
    · simp at h0
    · exact cmp_some b1 o1 c1 b2 o2 c2 ys w hm h1 h2

theorem Eq_same {w : World} {u v : Value} {ys : List Int} (hu : BytesAt w u ys) (hv : BytesAt w v ys) (hm : ys.length ≤ 140737488355328) : Calls Tryz.prog 33 #[u, v] w fun e w' => e = .returned (.bool true) ∧ ∃ n, w' = w.drewN n := by
  have hcall := Cmp_same hu hv hm
  obtain ⟨ao, ca, rfl, _⟩ := hu
  obtain ⟨bo, cb, rfl, _⟩ := hv
  go_enter Tryz.func33, Tryz.ntmps33
  go_wp2_with (go_at_call 46; refine hcall.mono ?_; rintro e w1 ⟨rfl, n, rfl⟩)
  go_ret
  exact ⟨rfl, _, rfl⟩
end Go.Proofs.YtddhhjgegkkjbaaGreatDoor

namespace Go.Proofs.YtddhhjgegkkjbaaGreatDoor
open Go.RowKit

theorem handed_shapedX {H : Type} {enc : TypeId × Value → H} {C : Checked} {os : Os} {f : FuncId} {fn : Func} {s : ChangeSpec} {X : World → Array Value → Prop}
    (hX : ∀ (w w' : World) (args : Array Value), w.heap = w'.heap → X w args → X w' args) (own : ownKnob C.prog.godebug = none) (started : os.Started) (noInit : C.prog.inits.idxOf? f = none) (hfn : C.prog.funcs[f]? = some fn)
    (witness : ∃ (w : World) (tape : Tape) (i : Input), w.os = os ∧ (w.forCall tape i).Shaped C.prog ∧ i.vars = [] ∧ Input.okWide C.prog (w.forCall tape i) .any w.heap.size f i ∧
      ((s.pre enc C.prog fn [] false (w.forCall tape i).memory i.args ∧ X (w.forCall tape i).memory i.args) ∧ sizedMet enc C.prog fn (OpenSpec.ofChange s) false (w.forCall tape i).memory i.args) ∧ (({} : Assume).holds C.prog (lone (Frame.enter C.prog f i.args .normal) [] (w.forCall tape i))))
    (contract : ∀ (W : World) (base : Nat) (args : Array Value) (ds gs : List (DataW H)) (before : List MemPlace),
      (∀ (j : Nat) t v, fn.params[j]? = some t → args[j]? = some v → Value.okWide C.prog W .any base t v) → DataW.Whole enc C.prog fn.params.toList s.vars false W args.toList ds gs before →
      (DataW.weightsEach C.prog (fn.params.toList ++ s.plain.varTypes C.prog) (ds ++ gs)).all (· ≤ reachBytes) = true → X W args → W.ShapedOpen C.prog →
      Calls C.prog f args W fun e W' => ∃ v, e = .returned v ∧ s.post enc C.prog fn false true false false W args v W') :
    ReturnsInHanded {} C os f .any (fun w args => (s.pre enc C.prog fn [] false w args ∧ X w args) ∧ sizedMet enc C.prog fn (OpenSpec.ofChange s) false w args) (s.post enc C.prog fn false true false false) := by
  refine returnsInHanded_of_calls own started noInit witness fun w tape i _ hsh _ hok hpre _ => ?_
  obtain ⟨_, _, _, fn2, hfn2, _, _, _, _, hval⟩ := hok
  obtain rfl : fn = fn2 := Option.some.inj (hfn.symm.trans hfn2)
  obtain ⟨⟨⟨ds, gs, before, hw, _⟩, hx⟩, hz⟩ := hpre
  have hw2 : DataW.Whole enc C.prog fn.params.toList s.vars false (w.forCall tape i) i.args.toList ds gs before := DataW.Whole.of_heap (by rfl) hw
  refine (contract (w.forCall tape i) w.heap.size i.args ds gs before hval hw2 (hz.weights hw) (hX _ _ _ (by rfl) hx) hsh).mono ?_
  rintro e W' ⟨v, rfl, hp⟩
  exact ChangeSpec.post_blind hp
end Go.Proofs.YtddhhjgegkkjbaaGreatDoor
