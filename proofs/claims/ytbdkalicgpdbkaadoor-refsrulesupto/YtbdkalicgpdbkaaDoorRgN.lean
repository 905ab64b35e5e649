/-
  DRAWN REGIONS within a round of a range over a function: what is walked outside a fence holds there too. No Go text is named here.
  The two forms of a range whose rounds know what they are handed: at a loop that stands in no other, and at one in another's round. No Go text is named here.
-/
import Derived.Test.YtbdkalicgpdbkaaDoorRgG
import Derived.Test.YtbdkalicgpdbkaaDoorOpenB
import Derived.OrdersHeld
import Derived.OrdersIn
namespace Go.Proofs.YtbdkalicgpdbkaaDoor
open Go.RowKit

/-- It is left by its end alone. -/
def NrmQ (Q : Exit → Act → World → Prop) (e : Exit) (a : Act) (w : World) : Prop := e = .normal ∧ Q .normal a w
theorem NrmQ.panic {Q : Exit → Act → World → Prop} {c : List PanicEntry} {a b : Act} {w : World} (h : NrmQ Q (.panic c) a w) : NrmQ Q (.panic c) b w := by cases h.1
section
variable {P : Program} {l n : Nat} {Q : Exit → Act → World → Prop}
/-- A range's contract within a round. -/
theorem SeqG.inRound {α : Type} {F : Fence} {g : Nat} {lb : Array Value} {encs : α → Array Value} {Kp : World → World → Prop} {G : α → World → World → Prop} {S Sp : List α → Prop} {N : Nat} {w : World} (l : Nat) (h : SeqG F n P g lb encs Kp G S Sp N w) : SeqG (F.inRound l) n P g lb encs Kp G S Sp N w := h
end
end Go.Proofs.YtbdkalicgpdbkaaDoor

namespace Go.Proofs.YtbdkalicgpdbkaaDoor
open Go.RowKit

/-- The frame ahead of a statement gets a name. -/
theorem wpIn_cap {F : Fence} {n : Nat} {P : Program} {c : Code} {Q : Exit → Act → World → Prop} {a : Act} {w : World} (h : ∀ T0, T0 = a.tmps → c.wpIn F n P Q { tmps := T0, defers := a.defers } w) : c.wpIn F n P Q a w := h _ rfl
section
variable {α : Type} {F : Fence} {n : Nat} {P : Program} {g : Operand} {ps : Array Tmp} {assign body : Code} {Q : Exit → Act → World → Prop} {a : Act} {w : World}
  {gf : Nat} {lb : Array Value} {encs : α → Array Value} {Kp : World → World → Prop} {G : α → World → World → Prop} {S Sp : List α → Prop} {N : Nat} {w0 : World}
/-- In no other loop. -/
theorem wpIn_rangeG_out (hro : F.round = none) (h1 : 1 ≤ n) (hg : a.eval g = .func (.func gf) #[] lb) (hFg : F.fn gf) (eg : ∀ args w, (callFunc gf args).run P w = .ok (.enter gf args) w)
    (hseq : SeqG F (n - 1) P gf lb encs Kp G S Sp N w0) (hG : ∀ x A C, G x A C → KeepsFrom w.heap.size A C)
    (hKt : ∀ {A B C : World}, Kp A B → Kp B C → Kp A C) (hKb : ∀ (W : World) (l : Nat) (o o' : Obj), w.heap.size ≤ l → W.heap[l]? = some o → o.isCells = false → o.isWalk = false → Kp W (W.putObj l o')) (hps : ∀ x, (encs x).size = ps.size)
    (hb0 : Below w0.heap.size w0 w)
    (I : List α → World → Prop) (Ix : Code → List α → World → Prop) (hI : OwnFrom w.heap.size I) (hIx : ∀ c, OwnFrom w.heap.size (Ix c)) (h0 : I [] w) (Ax : List α → α → Act → World → Prop) (hAx : ∀ pre x a', OwnFrom w.heap.size (fun (_ : Unit) W => Ax pre x a' W))
    (hassign : ∀ (pre : List α) (x : α) (A W : World) (K : Act → World → Prop), I pre A → G x A W → pre.length < N → (∀ a' W', KeepsFrom w.heap.size W W' → Kp W W' → Ax pre x a' W' → K a' W') →
      assign.wpIn (F.inRound (w.heap.size + 1)) (n - 1 - 1) P (Exit.then K (fun _ _ _ => False)) { tmps := (ps.zip (encs x)).foldl (fun t (p, v) => t.setIfInBounds p v) a.tmps, defers := [] } W)
    (hbody : ∀ (pre : List α) (x : α) (a' : Act) (W : World), (∃ r, W.heap[w.heap.size + 1]? = some (.loop r)) → Ax pre x a' W → pre.length < N → body.wpIn (F.inRound (w.heap.size + 1)) (n - 1 - 1) P (ownPostG w.heap.size Kp I Ix (pre ++ [x]) W) a' W)
    (hdone : ∀ (xs : List α) (W : World), S xs → I xs W → W.heap[w.heap.size]? = some (.deferred (some [])) → Q .normal { a with defers := { target := .collected w.heap.size, args := #[] } :: a.defers } W)
    (hstop : ∀ (c : Code) (pre : List α) (W : World), Sp pre → Ix c pre W → W.heap[w.heap.size]? = some (.deferred (some [])) → c.wpIn F n P Q { a with defers := { target := .collected w.heap.size, args := #[] } :: a.defers } W) :
    (Code.rangeFunc g ps assign body).wpIn F n P Q a w := by
  refine wpIn_rangeG h1 hg hFg eg hseq hG hKt hKb hps (w.heap.size + 1) [{ target := .collected w.heap.size, args := #[] }] (fun W => W.heap[w.heap.size]? = some (.deferred (some []))) (Nat.le_succ _)
    (fun A C h k => k.same _ _ (Nat.le_refl _) h rfl) (fun A o h => (World.putObj_heap_other (by omega)).trans h) (fun A C row h hg' hr => keeps_of_walk hg' hr h rfl) (fun fn => ?_) hb0 I Ix hI hIx h0 Ax hAx hassign hbody hdone hstop
  rw [hro]
  refine ⟨w.heap.size, _, run_enterLoop_outer _ _ _ _ _, ?_, ?_, ?_⟩
  · have := World.alloc_heap_new (w.alloc (.deferred (some []))) (.loop (recAt fn a.tmps ps assign body w.heap.size .ready none))
    rwa [World.size_alloc] at this
  · exact (Below.heap_alloc _ _ _ (by simp)).trans (World.alloc_heap_new w _)
  · have k : Kept [] w ((w.alloc (.deferred (some []))).alloc (.loop (recAt fn a.tmps ps assign body w.heap.size .ready none))) := ((Kept.refl [] w).alloc _).alloc _
    exact k.grows
end
end Go.Proofs.YtbdkalicgpdbkaaDoor
