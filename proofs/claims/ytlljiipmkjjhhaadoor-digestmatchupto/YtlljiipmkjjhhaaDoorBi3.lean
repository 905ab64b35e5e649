/-
  WALKS: (*satchellaw1.Book).tight, IDs.
-/
import Derived.Test.YtlljiipmkjjhhaaDoorBi2
import Derived.Test.YtlljiipmkjjhhaaDoorOpenB
namespace Go.Proofs.YtlljiipmkjjhhaaDoor
open Go.RowKit

structure BookAtI (W : World) (B bb : Nat) (es : List Ent) (a turn done : Int) (S : List Nat) : Prop where
  ex : ∃ vb vo D SD used, BkI W B bb vb vo D SD (es.map Ent.v) (es.map fun x => Value.int .i64 x.m) a turn done used ∧ (∀ x, x ∈ es → EntIn D x ∧ 0 ≤ x.m ∧ x.m ≤ turn) ∧ 0 ≤ used ∧ used ≤ 16777216 ∧ S = footB bb vb vo SD
theorem BookAtI.on {W W' : World} {B bb : Nat} {es : List Ent} {a turn done : Int} {S T : List Nat} (h : BookAtI W B bb es a turn done S) (k : Kept T W W') (hd : ∀ x, x ∈ S → x ∉ T) : BookAtI W' B bb es a turn done S := by
  obtain ⟨vb, vo, D, SD, used, P, h1, h2, h3, rfl⟩ := h.ex
  exact ⟨vb, vo, D, SD, used, P.on k hd, h1, h2, h3, rfl⟩
theorem BookAtI.lt {W : World} {B bb : Nat} {es : List Ent} {a turn done : Int} {S : List Nat} (h : BookAtI W B bb es a turn done S) : ∀ x, x ∈ S → B ≤ x ∧ x < W.heap.size := by
  obtain ⟨vb, vo, D, SD, used, P, h1, h2, h3, rfl⟩ := h.ex
  exact P.lt

section
variable {W : World} {B bb : Nat} {vb vo : Value} {D : Nat → Option MB} {SD : List Nat} {L1 L2 : List Value} {a turn done used : Int}
theorem BkI.cells (P : BkI W B bb vb vo D SD L1 L2 a turn done used) : W.cell? ⟨bb, 6, none⟩ = some vb ∧ W.cell? ⟨bb, 7, none⟩ = some vo ∧ W.cell? ⟨bb, 8, none⟩ = some (.int .i64 a) ∧ W.cell? ⟨bb, 33, none⟩ = some (.int .i64 turn) ∧ W.cell? ⟨bb, 34, none⟩ = some (.int .i64 done) ∧ W.cell? ⟨bb, 35, none⟩ = some (.int .i64 used) ∧ ∀ o, W.frozen? ⟨bb, o, none⟩ = false := by
  obtain ⟨h1, h2, _⟩ := own_facts P.box
  exact ⟨h1 6, h1 7, h1 8, h1 33, h1 34, h1 35, h2⟩

set_option maxHeartbeats 1000000 in
theorem tightI_no (P : BkI W B bb vb vo D SD L1 L2 a turn done used) (n : Int) (h0 : 0 ≤ n) (h1 : n ≤ 1000000000000000) (hu0 : 0 ≤ used) (hu1 : used + n ≤ 16777216) :
    Calls Tryd.prog 28 #[.pointer (some ⟨bb, 0, none⟩), .int .i64 n] W fun e w' => e = .returned (.bool false) ∧ w' = W.setCell ⟨bb, 35, none⟩ (.int .i64 (used + n)) := by
  obtain ⟨_, _, _, _, _, q, f⟩ := P.cells
  have w1 : IntKind.i64.wrap (used + n) = used + n := by rw [IntKind.wrap_i64]; omega
  have d1 : decide (16777216 < used + n) = false := by simp; omega
  clear P
  go_enter Tryd.func28, Tryd.ntmps28
  go_wp2
  go_ret
  exact ⟨rfl, rfl⟩
set_option maxHeartbeats 1000000 in
theorem tightI_yes (P : BkI W B bb vb vo D SD L1 L2 a turn done used) (n : Int) (h0 : 0 ≤ n) (h1 : n ≤ 1000000000000000) (hu0 : 0 ≤ used) (hu2 : used ≤ 16777216) (hu1 : 16777216 < used + n) :
    Calls Tryd.prog 28 #[.pointer (some ⟨bb, 0, none⟩), .int .i64 n] W fun e w' => e = .returned (.bool true) ∧ w' = W := by
  obtain ⟨_, _, _, _, _, q, f⟩ := P.cells
  have w1 : IntKind.i64.wrap (used + n) = used + n := by rw [IntKind.wrap_i64]; omega
  have d1 : decide (16777216 < used + n) = true := by simp; omega
  clear P
  go_enter Tryd.func28, Tryd.ntmps28
  go_wp2
  go_ret
  exact ⟨rfl, rfl⟩
end

theorem owns_form1 {w : World} {B : Nat} {e : TypeId} {n : Nat} {v : Value} {xs : List Value} (h : w.ownsRow B e 1 v n xs) (hn : 0 < n) : ∃ g cap, v = .slice (some ⟨g, 0, none⟩) n cap := by
  rcases h.2 with ⟨_, h0⟩ | ⟨g, cap, cur, hv, _⟩
  · omega
  · exact ⟨g, cap, hv⟩
theorem wpList_buildI {ops : Array Oper} {rest : List Oper} {o : Oper} {a : Act} {w : World} {Q : Exit → Act → World → Prop} (hgd : o.guard = none) (t : TypeId) (parts : Array (Nat × Operand)) (ho : o.op = .build t parts) (cells : Array Value)
    (hb : Tryd.prog.built t (parts.map fun (i, x) => (i, a.eval x)).toList = some cells) (h : wpList Tryd.prog ops Q rest (a.put o.dst (.agg cells)) w) : wpList Tryd.prog ops Q (o :: rest) a w :=
  wpList_build hgd t parts ho (by rw [hb]; rfl) (by rw [hb]; exact h)
theorem builtM (a b c : Int) : Tryd.prog.built 24 [(0, .int .u8 a), (1, .int .u8 b), (2, .int .u8 c)] = some (idC ([a, b, c] ++ List.replicate 29 0)) := by kernel_rfl
set_option maxRecDepth 100000 in
set_option maxHeartbeats 1000000 in
theorem idsMark_any (m : Int) (h0 : 0 ≤ m) (h1 : m ≤ 1000000000) (w : World) :
    Calls Tryd.prog 27 #[.int .i64 m] w fun e w' => e = .returned (.agg (idC (idM m))) ∧ Kept [] w w' := by
  have ha0 : ∀ w, Calls Tryd.prog 39 #[.int .i64 m, .int .i64 0] w fun e w' => e = .returned (.int .u8 (atM m 0)) ∧ w' = w := fun w => at_any m h0 h1 0 w
  have ha1 : ∀ w, Calls Tryd.prog 39 #[.int .i64 m, .int .i64 1] w fun e w' => e = .returned (.int .u8 (atM m 1)) ∧ w' = w := fun w => at_any m h0 h1 1 w
  obtain ⟨X, hX⟩ : ∃ X, X = idC (idM m) := ⟨_, rfl⟩
  have hXs : X.size = 32 := by rw [hX]; exact idC_size (idM_good m).1
  have hX1 : X.all (·.oneCell') = true := by rw [hX]; exact all_oneCell_toArray (map_oneCell _)
  have hbt := builtM (atM m 0) (atM m 1) ((m / 65536) % 256)
  rw [show idC ([atM m 0, atM m 1, m / 65536 % 256] ++ List.replicate 29 0) = X by rw [hX]; rfl] at hbt
  have hsz : (Tryd.prog.info? 24).map (·.size) = some X.size := by rw [hXs]; exact Tryd.infoID
  rw [← hX]
  obtain ⟨W2, hW2⟩ : ∃ W2, W2 = w.alloc (.cells X 24) := ⟨_, rfl⟩
  have HW2 : Hid (W2 = w.alloc (.cells X 24)) := hW2
  have hld : (loadVar 24 ⟨w.heap.size, 0, none⟩).run Tryd.prog W2 = .ok (.agg X) W2 := by
    have h := run_loadVar_mid (P := Tryd.prog) W2 w.heap.size 0 24 X.toList _ (row_range (show W2.heap[w.heap.size]? = some (.cells X.toList.toArray 24 (0, 0)) by rw [hW2]; exact heap_alloc_new w _)) Tryd.underlying24 rfl (by rw [hsz]; simp)
    rwa [Array.toArray_toList] at h
  generalize atM m 0 = a0 at *
  generalize atM m 1 = a1 at *
  clear hX hW2
  go_enter Tryd.func27, Tryd.ntmps27
  go_wp2_with (first
    | (go_at_call 39; with_reducible refine (ha0 _).mono ?_; rintro e w9 ⟨rfl, hw9⟩; subst w9)
    | (go_at_call 39; with_reducible refine (ha1 _).mono ?_; rintro e w9 ⟨rfl, hw9⟩; subst w9)
    | (refine wpList_buildI (by rfl) 24 _ (by rfl) X (by first | exact hbt | (simp [Act.eval]; exact hbt)) ?_)
    | (refine wpList_store_row (by rfl) 24 (.tmp 2) (.tmp 10) (by rfl) w.heap.size X (by rfl) (by rfl) 24 _ (heap_alloc_new w _) hsz hXs.symm hX1 ?_
       rw [World.setRow_alloc_new, ← HW2.out]))
  refine bodyPost_ret (v := .agg X) (by simp [results, Tryd.results27, asAddr, Act.put, hld]) rfl ⟨rfl, ?_⟩
  rw [HW2.out]
  exact (Kept.refl _ _).alloc _
end Go.Proofs.YtlljiipmkjjhhaaDoor
