/-
  What the law of Match stands on: a new book of ids, the lists that are told, the beginning's digits.
-/
import Derived.Test.YtlljiipmkjjhhaaDoorDm5
import Derived.Test.YtlljiipmkjjhhaaDoorBi6
import Derived.Test.YtlljiipmkjjhhaaDoorBk0
import Derived.Test.YtlljiipmkjjhhaaDoorDm0
import Derived.Test.YtlljiipmkjjhhaaDoorSha9
import Derived.Test.YtlljiipmkjjhhaaDoorRwsA
namespace Go.Proofs.YtlljiipmkjjhhaaDoor
open Go.RowKit

theorem wpList_builtD {ops : Array Oper} {rest : List Oper} {o : Oper} {a : Act} {w : World} {Q : Exit → Act → World → Prop} (hg : o.guard = none) (t : TypeId) (parts : Array (Nat × Operand)) (ho : o.op = .build t parts) (A : Array Value)
    (hb : Tryd.prog.built t (parts.map fun (i, x) => (i, a.eval x)).toList = some A) (h : wpList Tryd.prog ops Q rest (a.put o.dst (.agg A)) w) : wpList Tryd.prog ops Q (o :: rest) a w :=
  wpList_build hg t parts ho (by rw [hb]; rfl) (by rw [hb]; exact h)
theorem bkQ_new (W : World) (B : Nat) (hB : B ≤ W.heap.size) : BkQ (W.alloc (.cells (bookI (.slice none 0 0) (.slice none 0 0) 0 0 0 0) 54)) B W.heap.size [] 0 0 0 [W.heap.size] := by
  refine ⟨⟨_, _, fun _ => none, [], 0, ⟨heap_alloc_new W _, World.ownsRow_nil _ _ _ _, World.ownsRow_nil _ _ _ _, ⟨fun _ _ h => by simp at h, fun _ h => by simp at h, fun _ _ h => by simp at h⟩, hB, by simp, fun _ h => by simp [Value.ownBlock] at h, fun _ h => by simp [Value.ownBlock] at h⟩, fun x h => by simp at h, by decide, by decide, by simp [footB, Value.ownBlock]⟩, Nat.le_refl _, by simp, fun _ _ h => by simp at h⟩
theorem ListI.base {W : World} {B B' : Nat} {v : Value} {A : List (List Int)} (h : ListI W B v A) (hb : B' ≤ B) : ListI W B' v A := by
  rcases h with h | ⟨g, cap, h1, h2, h3⟩
  · exact .inl h
  · exact .inr ⟨g, cap, h1, Nat.le_trans hb h2, h3⟩
theorem ListI.own {W : World} {B : Nat} {v : Value} {A : List (List Int)} (h : ListI W B v A) (g : Nat) (hg : v.ownBlock = some g) : B ≤ g ∧ g < W.heap.size := by
  rcases h with ⟨h1, _⟩ | ⟨g', cap, h1, h2, h3⟩
  · rw [h1] at hg; simp [Value.ownBlock] at hg
  · rw [h1] at hg
    have : g' = g := by simpa [Value.ownBlock] using hg
    rw [← this]
    exact ⟨h2, h3.lt⟩
theorem ListI.at {W : World} {B : Nat} {a : Option Addr} {n cap : Nat} {A : List (List Int)} (h : ListI W B (.slice a n cap) A) {k : Nat} {x : List Int} (hx : A[k]? = some x) : ∃ g, a = some ⟨g, 0, none⟩ ∧ A.length ≤ cap ∧ ∀ W', Kept [] W W' → ∀ (i : Nat) (y : List Int), A[i]? = some y → W'.rangeAt g (i * 32) (y.map (Value.int .u8)) := by
  rcases h with ⟨h1, h2⟩ | ⟨g, cap', h1, h2, h3⟩
  · rw [h2] at hx; simp at hx
  · injection h1 with e1 e2 e3
    exact ⟨g, e1, by have := h3.le; omega, fun W' k i y hy => range_kept (h3.row i y hy) k (by simp)⟩
/-- The book takes a list in: what is said of its blocks. -/
theorem IDsD {W : World} {B bb : Nat} {es : List Ent} {a turn : Nat} {done : Int} {S : List Nat} (hbk : BkQ W B bb es a turn done S) {v : Value} {ids : List (List Int)} (hv : ListI W B v ids) (hg : ∀ g, v.ownBlock = some g → g ∉ S) (ht1 : turn ≤ 5000) (hy : ids.length ≤ 1000000) (hB : B ≤ W.heap.size) :
    Calls Tryd.prog 15 #[.pointer (some ⟨bb, 0, none⟩), v] W fun e w' => e = .returned (.tuple #[]) ∧ ∃ es' a' done' S', BkQ w' B bb es' a' (turn + 1) done' S' ∧ Kept (S ++ v.ownBlock.toList) W w' ∧ (∀ x, x ∈ S' → x ∈ S ∨ v.ownBlock = some x ∨ W.heap.size ≤ x) ∧ (∀ x, x ∈ S ++ v.ownBlock.toList → B ≤ x) := by
  refine (IDs_bk hbk hv hg ht1 hy hB).mono ?_
  rintro e w' ⟨rfl, es', a', done', S', h1, h2, h3⟩
  refine ⟨rfl, es', a', done', S', h1, h2, h3, fun x hx => ?_⟩
  rcases List.mem_append.1 hx with h | h
  · exact (hbk.bk.lt x h).1
  · exact (hv.own x (by simpa using h)).1
theorem LookD {W : World} {B bb : Nat} {es : List Ent} {a turn : Nat} {done : Int} {S : List Nat} (hbk : BkQ W B bb es a turn done S) (ht : turn ≤ 5000) (hB : B ≤ W.heap.size) :
    Calls Tryd.prog 16 #[.pointer (some ⟨bb, 0, none⟩)] W fun e w' => e = .returned (.bool true) ∧ Kept S W w' ∧ ∀ x, x ∈ S → B ≤ x := by
  refine (LookI_any hbk ht hB).mono ?_
  rintro e w' ⟨rfl, es', a', done', S', h1, h2, h3⟩
  exact ⟨rfl, h2, fun x hx => (hbk.bk.lt x hx).1⟩

/-- Are the first k of the letters digits? -/
def allD (ps : List Int) (k : Nat) : Bool := (ps.take k).all fun c => decide (isDigit c)
theorem allD_succ (ps : List Int) (k : Nat) (h : k < ps.length) : allD ps (k + 1) = (allD ps k && decide (isDigit (ps[k]?.getD 0))) := by
  unfold allD
  rw [List.take_succ_eq_append_getElem h, List.all_append, List.getElem?_eq_getElem h]
  simp
theorem allD_all (ps : List Int) : allD ps ps.length = true ↔ ∀ c, c ∈ ps → isDigit c := by
  unfold allD
  rw [List.take_length, List.all_eq_true]
  exact ⟨fun h c hc => of_decide_eq_true (h c hc), fun h c hc => decide_eq_true (h c hc)⟩
theorem sorted_near {M : List (List Int)} (h : SortedIds M) {j k : Nat} (hjk : j < k) {x y : List Int} (hx : M[k]? = some x) (hy : M[j]? = some y) : cmpB y x < 0 := by
  have h1 := (List.getElem?_eq_some_iff.1 hx)
  have h2 := (List.getElem?_eq_some_iff.1 hy)
  obtain ⟨a1, rfl⟩ := h1
  obtain ⟨a2, rfl⟩ := h2
  exact List.pairwise_iff_getElem.1 h j k a2 a1 hjk
theorem sorted_few : ∀ (M L : List (List Int)), SortedIds M → (∀ x, x ∈ M → x ∈ L) → M.length ≤ L.length
  | [], _, _, _ => Nat.zero_le _
  | x :: M, L, hM, h => by
    have hM' := List.pairwise_cons.1 hM
    have hx := h x (by simp)
    have h1 := List.length_erase_of_mem hx
    have hp := List.length_pos_of_mem hx
    have h2 := sorted_few M (L.erase x) hM'.2 (fun y hy => by
      have hne : y ≠ x := fun e => cmpB_self x (e ▸ hM'.1 y hy)
      exact (List.mem_erase_of_ne hne).2 (h y (by simp [hy])))
    rw [List.length_cons]
    omega
end Go.Proofs.YtlljiipmkjjhhaaDoor
