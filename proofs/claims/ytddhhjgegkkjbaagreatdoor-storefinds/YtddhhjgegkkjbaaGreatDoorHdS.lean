/-
  LISTS OF BYTES AND OF INTEGERS OPENED: what a reading of them says of memory, and how much it weighs.
  LISTS OF STRUCTS OPENED, whatever the struct: what a reading of one says of memory.
  WALK: satchelref0.Copy, for every slice of bytes.
  WALKS: satchelref0.Cmp and Eq over two slices of the same bytes; satchellaw1.into.
  A LAW's call out of a contract that is told of the laid variables and of the world's shape too. No Go text is named here.
-/
import Derived.Test.YtddhhjgegkkjbaaGreatDoorRows
import Derived.Test.YtddhhjgegkkjbaaGreatDoorPlain
import Derived.ProofKit
import Derived.OpenShut
import Derived.SizedLaws
import Derived.Deep.Slices
import Derived.Test.YtddhhjgegkkjbaaGreatDoorCopied
import Derived.Test.YtddhhjgegkkjbaaGreatDoorPlain2
import Derived.Deep.QuietTactic
import Derived.BigQuiet
import Derived.Handed
namespace Go.Proofs.YtddhhjgegkkjbaaGreatDoor
open Go.ChangeShapes Go.WideShapes Go.ChangeAt Go.RowKit Go.Deep

theorem Tryz.cells_u8 : Tryz.prog.cellsOf 5 = 1 := by kernel_rfl
theorem Tryz.bytes_u8 : Tryz.prog.bytesOf 5 = 1 := by kernel_rfl
theorem Tryz.cells_int : Tryz.prog.cellsOf 3 = 1 := by kernel_rfl

section
variable {H : Type} {enc : TypeId × Value → H} {w : World} {base : Nat} {spare : Nat → Bool} {held : Bool} {fuel : Nat} {cs : List Value} {x : DataW H × List MemPlace}

theorem octs_wf {zs : List Int} (h : ∀ n ∈ zs, (Lit.int .u8 n).wf = true) : Octs zs := fun u hu => by
  have h1 := h u hu
  have e1 : IntKind.u8.min = 0 := rfl
  have e2 : IntKind.u8.max = 255 := rfl
  simp only [Lit.wf, Bool.and_eq_true, decide_eq_true_eq, e1, e2] at h1
  omega
theorem i64_wf {n : Int} (h : (Lit.int .i64 n).wf = true) : -9223372036854775808 ≤ n ∧ n ≤ 9223372036854775807 := by
  have e1 : IntKind.i64.min = -9223372036854775808 := rfl
  have e2 : IntKind.i64.max = 9223372036854775807 := rfl
  simp only [Lit.wf, Bool.and_eq_true, decide_eq_true_eq, e1, e2] at h
  omega
theorem bulk_length (l : List (DataW H)) : l.length ≤ Rows.uptoBulkAll l := by
  induction l with
  | nil => simp [Rows.uptoBulkAll]
  | cons d r ih =>
    have h1 : 1 ≤ Rows.uptoBulk d := by
      cases d with
      | lit l => cases l <;> simp [Rows.uptoBulk]
      | nil => simp [Rows.uptoBulk]
      | ptr d => simp [Rows.uptoBulk]
      | slice elems spare => simp [Rows.uptoBulk]
      | agg parts => simp [Rows.uptoBulk]
      | iface t d => simp [Rows.uptoBulk]
      | map entries => simp [Rows.uptoBulk]
      | held h => simp [Rows.uptoBulk]
    simp only [Rows.uptoBulkAll, List.length_cons]
    omega

theorem open_bytes (h : DataW.trod enc Tryz.prog w base spare held fuel 37 cs = some x) :
    ∃ ao cap ys, cs = [.slice ao ys.length cap] ∧ BytesAt w (.slice ao ys.length cap) ys ∧ Octs ys ∧ (∀ B, (DataW.weights Tryz.prog 37 x.1).all (· ≤ B) = true → ys.length ≤ B) ∧ ys.length + 1 ≤ Rows.uptoBulk x.1 := by
  rcases open_ints Tryz.underlying37 Tryz.underlying5 Tryz.cells_u8 h with ⟨rfl, rfl⟩ | ⟨a, len, cap, zs, rfl, _, hl, hm, hz, rfl, hcell, hwz⟩
  · exact ⟨none, 0, [], rfl, BytesAt.nil w, fun u hu => by simp at hu, fun _ _ => Nat.zero_le _, by simp [Rows.uptoBulk]⟩
  · have hlz : len ≤ zs.length := by rw [hz]; split <;> omega
    have hy : (zs.take len).length = len := by simp; omega
    refine ⟨some a, cap, zs.take len, by rw [hy], ?_, fun u hu => octs_wf hwz u (List.mem_of_mem_take hu), fun B hB => ?_, ?_⟩
    · refine ⟨some a, cap, rfl, by rw [hy]; exact hl, fun e => (by simp at e), fun hne => ?_⟩
      have hpos : 0 < zs.length := by
        rcases Nat.eq_zero_or_pos zs.length with h0 | h0
        · rw [List.eq_nil_of_length_eq_zero h0] at hne; simp at hne
        · exact h0
      obtain ⟨b, off, rfl, hc⟩ := ints_at hcell hpos
      refine ⟨b, off, rfl, fun i u hu => ?_⟩
      have hi : i < (zs.take len).length := (List.getElem?_eq_some_iff.1 hu).1
      rw [hy] at hi
      rw [hc i (by omega)]
      rw [List.getElem?_take_of_lt hi] at hu
      simp [List.getD, hu]
    · rw [hy]
      simp only [DataW.weights, Tryz.underlying37, Tryz.bytes_u8, List.all_cons, Bool.and_eq_true, decide_eq_true_eq, lits, List.length_map, List.length_take, List.length_drop] at hB
      omega
    · have h1 := bulk_length (lits (H := H) .u8 (zs.take len))
      simp only [Rows.uptoBulk]
      simp only [lits, List.length_map] at h1 ⊢
      omega
end
end Go.Proofs.YtddhhjgegkkjbaaGreatDoor

namespace Go.Proofs.YtddhhjgegkkjbaaGreatDoor
open Go.ChangeShapes Go.WideShapes Go.ChangeAt Go.RowKit Go.Deep

section
variable {H : Type} {enc : TypeId × Value → H} {w : World} {base : Nat} {spare : Nat → Bool} {held : Bool} {fuel : Nat} {cs : List Value} {x : DataW H × List MemPlace}
theorem weights_each (e : TypeId) (l : List (DataW H)) (B : Nat) (h : (DataW.weightsAll Tryz.prog e l).all (· ≤ B) = true) : ∀ d, d ∈ l → (DataW.weights Tryz.prog e d).all (· ≤ B) = true := by
  induction l with
  | nil => intro d hd; simp at hd
  | cons a l ih =>
    intro d hd
    simp only [DataW.weightsAll, List.all_append, Bool.and_eq_true] at h
    rcases List.mem_cons.1 hd with rfl | hd
    · exact h.1
    · exact ih h.2 d hd

theorem bulk_mem (l : List (DataW H)) (d : DataW H) (h : d ∈ l) : Rows.uptoBulk d ≤ Rows.uptoBulkAll l := by
  induction l with
  | nil => cases h
  | cons a l ih =>
    simp only [Rows.uptoBulkAll]
    rcases List.mem_cons.1 h with rfl | h
    · omega
    · have := ih h
      omega

set_option maxRecDepth 100000 in
/-- A list of structs of k cells, opened: each element is a thing of its own that lies in the list's row. -/
theorem open_rowlU {t e : TypeId} {k : Nat} {α : Type} [Inhabited α] (row : α → List Value) (G : α → Prop) (K : α → Nat) (B : Nat) (ht : Tryz.prog.underlying t = some (.slice e)) (hk : Tryz.prog.cellsOf e = k) (hk0 : 0 < k)
    (h : DataW.trod enc Tryz.prog w base spare held fuel t cs = some x)
    (hel : ∀ fuel cs x, DataW.trod enc Tryz.prog w base spare held fuel e cs = some x → ∃ a : α, cs = row a ∧ ((DataW.weights Tryz.prog e x.1).all (· ≤ B) = true → G a) ∧ K a ≤ Rows.uptoBulk x.1) :
    ∃ ao cap ls, cs = [.slice ao ls.length cap] ∧ ls.length ≤ cap ∧ (ao = none → cap = 0) ∧ (ls ≠ [] → ∃ b off, ao = some ⟨b, off, none⟩ ∧ ∀ (i : Nat) (a : α), ls[i]? = some a → w.rangeAt b (off + i * k) (row a)) ∧
      ((DataW.weights Tryz.prog t x.1).all (· ≤ B) = true → ls.length * Tryz.prog.bytesOf e ≤ B ∧ ∀ a, a ∈ ls → G a) ∧ ∀ a, a ∈ ls → K a ≤ Rows.uptoBulk x.1 := by
  rcases open_slice ht h with ⟨rfl, rfl⟩ | ⟨a, len, cap, m, n, D, Pl, rfl, _, hl, hm, hmm, rfl, hee⟩
  · exact ⟨none, 0, [], rfl, Nat.le_refl _, fun _ => rfl, fun e => absurd rfl e, fun _ => ⟨by simp, fun a ha => by cases ha⟩, fun a ha => by cases ha⟩
  · have hlm : len ≤ m := by rw [hmm]; split <;> omega
    have hop : ∀ i, i < len → ∃ o : α, w.cells? base (a.add (i * k)) k = some (row o) ∧ ((DataW.weights Tryz.prog e (D i)).all (· ≤ B) = true → G o) ∧ K o ≤ Rows.uptoBulk (D i) := by
      intro i hi
      obtain ⟨cs', hc, hte⟩ := hee i (by omega)
      rw [hk] at hc
      obtain ⟨o, rfl, hg⟩ := hel _ _ _ hte
      exact ⟨o, hc, hg⟩
    obtain ⟨O, hO⟩ := choose_lt hop
    have hlen : ((List.range len).map O).length = len := by simp
    refine ⟨some a, cap, (List.range len).map O, by rw [hlen], by rw [hlen]; exact hl, fun e => by simp at e, fun hne => ?_, fun hB => ?_, fun o ho => ?_⟩
    · have hpos : 0 < len := by
        rcases Nat.eq_zero_or_pos len with h0 | h0
        · subst h0; simp at hne
        · exact h0
      obtain ⟨b, off, spot⟩ := a
      have hl0 := (World.cells?_some (hO 0 hpos).1)
      have hspot : spot = none := by
        have h1 := hl0.2.2 0 hk0
        have hg0 : (row (O 0)).length = k := hl0.2.1
        obtain ⟨c0, hc0⟩ : ∃ c, (row (O 0))[0]? = some c := ⟨(row (O 0))[0], List.getElem?_eq_getElem (by omega)⟩
        rw [hc0] at h1
        simpa [Addr.add] using World.cell?_spot h1
      subst hspot
      refine ⟨b, off, rfl, fun i o ho => ?_⟩
      have hi : i < len := by have := (List.getElem?_eq_some_iff.1 ho).1; omega
      have eo : O i = o := by simpa [hi] using ho
      have hc := World.cells?_some (hO i hi).1
      rw [eo] at hc
      intro j c hj
      have hjk : j < k := by have := (List.getElem?_eq_some_iff.1 hj).1; have := hc.2.1; omega
      have h1 := hc.2.2 j hjk
      rw [hj] at h1
      simpa [Addr.add_mid] using h1
    · simp only [DataW.weights, ht, List.all_cons, List.all_append, Bool.and_eq_true, decide_eq_true_eq, List.length_map, List.length_range] at hB
      obtain ⟨hB1, hB2, _⟩ := hB
      refine ⟨?_, ?_⟩
      · rw [hlen]
        have : len * Tryz.prog.bytesOf e ≤ (len + (m - len)) * Tryz.prog.bytesOf e := Nat.mul_le_mul_right _ (by omega)
        omega
      · intro o ho
        simp only [List.mem_map, List.mem_range] at ho
        obtain ⟨i, hi, rfl⟩ := ho
        exact (hO i hi).2.1 (weights_each _ _ _ hB2 _ (List.mem_map.2 ⟨i, List.mem_range.2 (by omega), rfl⟩))
    · simp only [List.mem_map, List.mem_range] at ho
      obtain ⟨i, hi, rfl⟩ := ho
      have h1 := (hO i hi).2.2
      have h2 := bulk_mem _ (D i) (List.mem_map.2 ⟨i, List.mem_range.2 hi, rfl⟩ : D i ∈ (List.range len).map D)
      simp only [Rows.uptoBulk]
      omega
theorem open_rowl {t e : TypeId} {k : Nat} {α : Type} [Inhabited α] (row : α → List Value) (G : α → Prop) (B : Nat) (ht : Tryz.prog.underlying t = some (.slice e)) (hk : Tryz.prog.cellsOf e = k) (hk0 : 0 < k)
    (h : DataW.trod enc Tryz.prog w base spare held fuel t cs = some x)
    (hel : ∀ fuel cs x, DataW.trod enc Tryz.prog w base spare held fuel e cs = some x → ∃ a : α, cs = row a ∧ ((DataW.weights Tryz.prog e x.1).all (· ≤ B) = true → G a)) :
    ∃ ao cap ls, cs = [.slice ao ls.length cap] ∧ ls.length ≤ cap ∧ (ao = none → cap = 0) ∧ (ls ≠ [] → ∃ b off, ao = some ⟨b, off, none⟩ ∧ ∀ (i : Nat) (a : α), ls[i]? = some a → w.rangeAt b (off + i * k) (row a)) ∧
      ((DataW.weights Tryz.prog t x.1).all (· ≤ B) = true → ls.length * Tryz.prog.bytesOf e ≤ B ∧ ∀ a, a ∈ ls → G a) := by
  obtain ⟨ao, cap, ls, h1, h2, h3, h4, h5, _⟩ := open_rowlU row G (fun _ => 0) B ht hk hk0 h (fun f c x hx => by
    obtain ⟨a, h1, h2⟩ := hel f c x hx
    exact ⟨a, h1, h2, Nat.zero_le _⟩)
  exact ⟨ao, cap, ls, h1, h2, h3, h4, h5⟩
end
end Go.Proofs.YtddhhjgegkkjbaaGreatDoor

namespace Go.Proofs.YtddhhjgegkkjbaaGreatDoor
open Go.RowKit

set_option maxHeartbeats 400000 in
theorem Copy_any (v : Value) (ys : List Int) (w : World) (h : BytesAt w v ys) (hm : ys.length ≤ 140737488355328) :
    Calls Tryz.prog 20 #[v] w fun e w' => e = .returned (.slice (some ⟨w.heap.size, 0, none⟩) ys.length ys.length) ∧
      w'.heap[w.heap.size]? = some (.cells (ys.map (Value.int .u8)).toArray 5 (0, 0)) ∧ Kept [] w w' := by
  obtain ⟨ao, cap, rfl, hc, hnil, hcell⟩ := h
  have hmk := run_make_row' (P := Tryz.prog) 37 5 (.int .u8 0) 1 Tryz.underlying37 Tryz.info_u8 rfl .i64 .i64 ys.length (by omega) (by omega)
  obtain ⟨cs, hcs⟩ : ∃ cs, cs = ys.map (Value.int .u8) := ⟨_, rfl⟩
  have HC : Hid (cs = ys.map (Value.int .u8)) := hcs
  clear hcs
  go_enter Tryz.func20, Tryz.ntmps20
  go_wp2_with (refine wpList_copy_splice rfl (.tmp 7) (.tmp 8) 37 37 rfl 5 Tryz.underlying37 Tryz.size_u8 _ _ _ _ _ _ rfl rfl w.heap.size 0 (List.replicate ys.length (.int .u8 0)) 5 ?cg cs ?cn ?cp ?cf ?co w.heap.size w ?cb (Nat.le_refl _) ?_)
  case cg => rw [← toList_madeCells_one]; exact heap_alloc_new w _
  case cn => rw [HC.out]; simp
  case cp =>
    intro h0
    rw [HC.out] at h0
    obtain ⟨b, off, rfl, hh⟩ := hcell (by rintro rfl; simp at h0)
    refine ⟨_, rfl, fun j u hu => ?_⟩
    rw [HC.out] at hu
    simp only [List.getElem?_map, Option.map_eq_some_iff] at hu
    obtain ⟨z, hz, rfl⟩ := hu
    rw [Addr.add_mid, World.cell?_alloc_lt]
    · exact hh j z hz
    · exact World.block_lt_of_cell? w _ (hh j z hz)
  case cf => rw [HC.out]; simp
  case co => rw [HC.out]; exact map_oneCell ys
  case cb => exact (Below.refl _ _).alloc (Nat.le_refl _) _
  intro w2 hg hb
  go_wp2
  go_ret
  refine ⟨rfl, ?_, kept_of_below hb⟩
  rw [hg.out, splice_all _ _ _ (by rw [HC.out]; simp), HC.out]
end Go.Proofs.YtddhhjgegkkjbaaGreatDoor

namespace Go.Proofs.YtddhhjgegkkjbaaGreatDoor
open Go.RowKit

theorem cmp_empty (ao bo : Option Addr) (ca cb : Nat) (w : World) : Calls Tryz.prog 46 #[.slice ao 0 ca, .slice bo 0 cb] w fun e w' => e = .returned (.int .i64 0) ∧ ∃ n, w' = w.drewN n := by
  go_enter Tryz.func46, Tryz.ntmps46
  go_wp2
  refine wp_loop_rounds 1 ?_
  rw [rounds_succ]
  go_wp2
  go_ret
  exact ⟨rfl, 0, rfl⟩

set_option maxHeartbeats 1000000 in
theorem cmp_some (b1 o1 c1 b2 o2 c2 : Nat) (ys : List Int) (w : World) (hm : ys.length ≤ 140737488355328)
    (h1 : ∀ i, i < ys.length → w.cell? ⟨b1, o1 + i, none⟩ = some (.int .u8 (ys[i]?.getD 0))) (h2 : ∀ i, i < ys.length → w.cell? ⟨b2, o2 + i, none⟩ = some (.int .u8 (ys[i]?.getD 0))) :
    Calls Tryz.prog 46 #[.slice (some ⟨b1, o1, none⟩) ys.length c1, .slice (some ⟨b2, o2, none⟩) ys.length c2] w fun e w' => e = .returned (.int .i64 0) ∧ ∃ n, w' = w.drewN n := by
  go_enter Tryz.func46, Tryz.ntmps46
  go_wp2
  go_loopw [5] (fun i wr => ∃ k : Nat, k ≤ ys.length ∧ i = .int .i64 k ∧ ∃ n, wr = w.drewN n) (fun i _ => ys.length - (intOf i).toNat)
  case atStart => exact ⟨0, Nat.zero_le _, rfl, 0, rfl⟩
  case round =>
    obtain ⟨k, hk, rfl, n, rfl⟩ := hrel
    by_cases hlt : k < ys.length
    · have g1 := h1 k hlt
      have g2 := h2 k hlt
      obtain ⟨z, hz⟩ : ∃ z, z = ys[k]?.getD 0 := ⟨_, rfl⟩
      rw [← hz] at g1 g2
      clear hz h1 h2
      have i0 : (0 : Int) ≤ (k : Int) := by omega
      have i1 : (k : Int) < (ys.length : Int) := by omega
      go_wp2
      go_quiet (fail)
      go_wp2
      go_quiet (fail)
      go_wp2
      go_roundw
      case rel => exact ⟨k + 1, by omega, by go_num, _, rfl⟩
      case measure => simp [intOf]; omega
    · clear h1 h2
      go_wp2
      go_ret
      exact ⟨rfl, _, rfl⟩

theorem Cmp_same {w : World} {u v : Value} {ys : List Int} (hu : BytesAt w u ys) (hv : BytesAt w v ys) (hm : ys.length ≤ 140737488355328) : Calls Tryz.prog 46 #[u, v] w fun e w' => e = .returned (.int .i64 0) ∧ ∃ n, w' = w.drewN n := by
  rcases hu.parts with ⟨rfl, ao, ca, rfl⟩ | ⟨b1, o1, c1, rfl, _, h0, h1⟩
  · obtain ⟨bo, cb, rfl, _⟩ := hv
    exact cmp_empty ao bo ca cb w
  · rcases hv.parts with ⟨rfl, bo, cb, rfl⟩ | ⟨b2, o2, c2, rfl, _, _, h2⟩
    · simp at h0
    · exact cmp_some b1 o1 c1 b2 o2 c2 ys w hm h1 h2

theorem Eq_same {w : World} {u v : Value} {ys : List Int} (hu : BytesAt w u ys) (hv : BytesAt w v ys) (hm : ys.length ≤ 140737488355328) : Calls Tryz.prog 33 #[u, v] w fun e w' => e = .returned (.bool true) ∧ ∃ n, w' = w.drewN n := by
  have hcall := Cmp_same hu hv hm
  obtain ⟨ao, ca, rfl, _⟩ := hu
  obtain ⟨bo, cb, rfl, _⟩ := hv
  go_enter Tryz.func33, Tryz.ntmps33
  go_wp2_with (go_at_call 46; refine hcall.mono ?_; rintro e w1 ⟨rfl, n, rfl⟩)
  go_ret
  exact ⟨rfl, _, rfl⟩
end Go.Proofs.YtddhhjgegkkjbaaGreatDoor

namespace Go.Proofs.YtddhhjgegkkjbaaGreatDoor
open Go.RowKit

theorem handed_shapedX {H : Type} {enc : TypeId × Value → H} {C : Checked} {os : Os} {f : FuncId} {fn : Func} {s : ChangeSpec} {X : World → Array Value → Prop}
    (hX : ∀ (w w' : World) (args : Array Value), w.heap = w'.heap → X w args → X w' args) (own : ownKnob C.prog.godebug = none) (started : os.Started) (noInit : C.prog.inits.idxOf? f = none) (hfn : C.prog.funcs[f]? = some fn)
    (witness : ∃ (w : World) (tape : Tape) (i : Input), w.os = os ∧ (w.forCall tape i).Shaped C.prog ∧ i.vars = [] ∧ Input.okWide C.prog (w.forCall tape i) .any w.heap.size f i ∧
      ((s.pre enc C.prog fn [] false (w.forCall tape i).memory i.args ∧ X (w.forCall tape i).memory i.args) ∧ sizedMet enc C.prog fn (OpenSpec.ofChange s) false (w.forCall tape i).memory i.args) ∧ (({} : Assume).holds C.prog (lone (Frame.enter C.prog f i.args .normal) [] (w.forCall tape i))))
    (contract : ∀ (W : World) (base : Nat) (args : Array Value) (ds gs : List (DataW H)) (before : List MemPlace),
      (∀ (j : Nat) t v, fn.params[j]? = some t → args[j]? = some v → Value.okWide C.prog W .any base t v) → DataW.Whole enc C.prog fn.params.toList s.vars false W args.toList ds gs before →
      (DataW.weightsEach C.prog (fn.params.toList ++ s.plain.varTypes C.prog) (ds ++ gs)).all (· ≤ reachBytes) = true → X W args → W.ShapedOpen C.prog →
      Calls C.prog f args W fun e W' => ∃ v, e = .returned v ∧ s.post enc C.prog fn false true false false W args v W') :
    ReturnsInHanded {} C os f .any (fun w args => (s.pre enc C.prog fn [] false w args ∧ X w args) ∧ sizedMet enc C.prog fn (OpenSpec.ofChange s) false w args) (s.post enc C.prog fn false true false false) := by
  refine returnsInHanded_of_calls own started noInit witness fun w tape i _ hsh _ hok hpre _ => ?_
  obtain ⟨_, _, _, fn2, hfn2, _, _, _, _, hval⟩ := hok
  obtain rfl : fn = fn2 := Option.some.inj (hfn.symm.trans hfn2)
  obtain ⟨⟨⟨ds, gs, before, hw, _⟩, hx⟩, hz⟩ := hpre
  have hw2 : DataW.Whole enc C.prog fn.params.toList s.vars false (w.forCall tape i) i.args.toList ds gs before := DataW.Whole.of_heap (by rfl) hw
  refine (contract (w.forCall tape i) w.heap.size i.args ds gs before hval hw2 (hz.weights hw) (hX _ _ _ (by rfl) hx) hsh).mono ?_
  rintro e W' ⟨v, rfl, hp⟩
  exact ChangeSpec.post_blind hp
end Go.Proofs.YtddhhjgegkkjbaaGreatDoor
