/-
  A RANGE OVER A FUNCTION whose rounds know what they are handed: the world ahead of the handing and what lies there for the round. No Go text is named here.
-/
import Derived.Test.YtbdkalicgpdbkaaDoorFnR
namespace Go.Proofs.YtbdkalicgpdbkaaDoor
open Go.RowKit

/-- What an iterator does that hands x only where 'G x A B' holds: in A the caller's word held, B is the world in which x is handed. -/
def SeqG {α : Type} (F : Fence) (n : Nat) (P : Program) (g : Nat) (lb : Array Value) (encs : α → Array Value) (Kp : World → World → Prop) (G : α → World → World → Prop) (S Sp : List α → Prop) (N : Nat) (w : World) : Prop :=
  ∀ (l : Nat) (J Jx : List α → World → Prop) (W : World), Below w.heap.size w W → AbidesFrom W.heap.size J → AbidesFrom W.heap.size Jx →
    (∀ pre x A B, J pre A → G x A B → pre.length < N → YieldAt F (n - 1) P l (encs x) B fun e W' =>
      (e = .returned (.bool true) ∧ J (pre ++ [x]) W' ∧ Kp B W') ∨ (e = .returned (.bool false) ∧ Jx (pre ++ [x]) W')) →
    J [] W →
    CallsIn F n P g (#[.func (.yield l) #[] #[]] ++ lb) W fun e W' => (∃ v, e = .returned v) ∧ ((∃ xs, S xs ∧ J xs W') ∨ (∃ pre, Sp pre ∧ Jx pre W'))
/-- A loop's record, in one of its states. -/
def recAt (fn : FuncId) (tm : Array Value) (ps : Array Tmp) (assign body : Code) (dd : Nat) (st : LoopState) (pe : Option Code) : Loop := { state := st, pending := pe, fn := fn, tmps := tm, params := ps, assign := assign, body := body, defers := dd }
section
variable {α : Type} {F : Fence} {n : Nat} {P : Program} {ps : Array Tmp} {assign body : Code} {tm : Array Value} {fn : FuncId} {dd l B : Nat} {encs : α → Array Value} {Kp : World → World → Prop} {G : α → World → World → Prop} {N : Nat} {X : World → Prop} {I : List α → World → Prop} {Ix : Code → List α → World → Prop} {Ax : List α → α → Act → World → Prop}
/-- What a law keeps beside its own word: the record and X. -/
def BkG (fn : FuncId) (tm : Array Value) (ps : Array Tmp) (assign body : Code) (dd l : Nat) (X : World → Prop) (st : LoopState) (pe : Option Code) (W : World) : Prop := W.heap[l]? = some (.loop (recAt fn tm ps assign body dd st pe)) ∧ X W
theorem BkG.keeps {st : LoopState} {pe : Option Code} {W W' : World} (hX : ∀ A C, X A → KeepsFrom B A C → X C) (hB : B ≤ l) (h : BkG fn tm ps assign body dd l X st pe W) (k : KeepsFrom B W W') : BkG fn tm ps assign body dd l X st pe W' :=
  ⟨k.same _ _ hB h.1 rfl, hX _ _ h.2 k⟩
theorem BkG.turn {st st' : LoopState} {pe pe' : Option Code} {W : World} (hXp : ∀ A o, X A → X (A.putObj l o)) (h : BkG fn tm ps assign body dd l X st pe W) : BkG fn tm ps assign body dd l X st' pe' (W.putObj l (.loop (recAt fn tm ps assign body dd st' pe'))) :=
  ⟨World.putObj_heap_same (lt_of_block h.1), hXp _ _ h.2⟩
theorem keeps_of_walk {A C : World} {row : Option Nat} {b : Nat} (hg : A.grownBy C row) (hr : ∀ r, row = some r → b ≤ r ∧ ∃ o : Obj, A.heap[r]? = some o ∧ o.isWalk = true) {o : Obj} {k : Nat} (hk : A.heap[k]? = some o) (ho : o.isWalk = false) : C.heap[k]? = some o :=
  (hg.block k (lt_of_block hk) (fun e => by
    obtain ⟨_, o', h1, h2⟩ := hr k e.symm
    rw [hk] at h1
    injection h1 with h1
    subst h1
    rw [ho] at h2
    cases h2)).trans hk
/-- One round. -/
theorem round_G (hF : F.fn fn) (hB : B ≤ l) (hXk : ∀ A C, X A → KeepsFrom B A C → X C) (hXp : ∀ A o, X A → X (A.putObj l o))
    (hKt : ∀ {A B C : World}, Kp A B → Kp B C → Kp A C) (hKb : ∀ (W : World) (l : Nat) (o o' : Obj), B ≤ l → W.heap[l]? = some o → o.isCells = false → o.isWalk = false → Kp W (W.putObj l o')) (hps : ∀ x, (encs x).size = ps.size)
    (hI : OwnFrom B I) (hIx : ∀ c, OwnFrom B (Ix c)) (hAx : ∀ pre x a', OwnFrom B (fun (_ : Unit) W => Ax pre x a' W)) (hG : ∀ x A C, G x A C → KeepsFrom B A C)
    {pre : List α} {x : α} {A W : World}
    (hassign : ∀ (K : Act → World → Prop), (∀ a' W', KeepsFrom B W W' → Kp W W' → Ax pre x a' W' → K a' W') → assign.wpIn (F.inRound l) (n - 1) P (Exit.then K (fun _ _ _ => False)) { tmps := (ps.zip (encs x)).foldl (fun t (p, v) => t.setIfInBounds p v) tm, defers := [] } W)
    (hbody : ∀ (a' : Act) (V : World), (∃ r, V.heap[l]? = some (.loop r)) → Ax pre x a' V → body.wpIn (F.inRound l) (n - 1) P (ownPostG B Kp I Ix (pre ++ [x]) V) a' V)
    (hx : G x A W) (hbk : BkG fn tm ps assign body dd l X .ready none A) :
    YieldAt F (n - 1) P l (encs x) W fun e W' => (e = .returned (.bool true) ∧ (I (pre ++ [x]) W' ∧ BkG fn tm ps assign body dd l X .ready none W') ∧ Kp W W') ∨ (e = .returned (.bool false) ∧ ∃ c, Ix c (pre ++ [x]) W' ∧ BkG fn tm ps assign body dd l X .done (some c) W') := by
  have hW := hbk.keeps hXk hB (hG _ _ _ hx)
  refine ⟨fn, _, assign, body, run_yield hW.1 (by rw [hps]; rfl), roundIn_of_wpIn hF (hassign _ ?_)⟩
  intro a' V kV kpV hax
  have hV := hW.keeps hXk hB kV
  refine ⟨_, run_beginRound hV.1 rfl, ?_⟩
  have hV2 : BkG fn tm ps assign body dd l X .busy none (V.putObj l (.loop (recAt fn tm ps assign body dd .busy none))) := hV.turn hXp
  have kp2 : Kp W (V.putObj l (.loop (recAt fn tm ps assign body dd .busy none))) := hKt kpV (hKb _ _ _ _ hB hV.1 rfl rfl)
  refine wpIn_mono (hbody a' _ ⟨_, hV2.1⟩ ((hAx pre x a').putObj (s := ()) _ hax hB hV.1 rfl)) ?_
  have leave : ∀ (c : Code) (V3 : World), KeepsFrom B (V.putObj l (.loop (recAt fn tm ps assign body dd .busy none))) V3 → Ix c (pre ++ [x]) V3 →
      ∃ v V4, (Instr.endRound l (some c)).run P V3 = .ok v V4 ∧ ((Ending.returned v = .returned (.bool true) ∧ (I (pre ++ [x]) V4 ∧ BkG fn tm ps assign body dd l X .ready none V4) ∧ Kp W V4) ∨ (Ending.returned v = .returned (.bool false) ∧ ∃ c, Ix c (pre ++ [x]) V4 ∧ BkG fn tm ps assign body dd l X .done (some c) V4)) := fun c V3 k3 hi => by
    have h3 := hV2.keeps hXk hB k3
    exact ⟨_, _, run_endRound (some c) h3.1, Or.inr ⟨rfl, c, (hIx c).putObj _ hi hB h3.1 rfl, h3.turn hXp⟩⟩
  rintro e a3 V3 hp
  cases e with
  | normal =>
    obtain ⟨k3, kp3, hi⟩ := hp
    have h3 := hV2.keeps hXk hB k3
    exact ⟨_, _, run_endRound none h3.1, Or.inl ⟨rfl, ⟨hI.putObj _ hi hB h3.1 rfl, h3.turn hXp⟩, hKt (hKt kp2 kp3) (hKb _ _ _ _ hB h3.1 rfl rfl)⟩⟩
  | ret => exact leave .ret V3 hp.1 hp.2
  | exit id => exact leave (.exit id) V3 hp.1 hp.2
  | goto t => exact leave (.goto t) V3 hp.1 hp.2
  | panic ch => exact hp.elim
  | outgrown => exact hp.elim
end
/-- The statement, at a loop that stands in no other and at one that stands in another's round: 'enters' tells which. -/
theorem wpIn_rangeG {α : Type} {F : Fence} {n : Nat} {P : Program} {g : Operand} {ps : Array Tmp} {assign body : Code} {Q : Exit → Act → World → Prop} {a : Act} {w : World}
    (h1 : 1 ≤ n) {gf : Nat} {lb : Array Value} (hg : a.eval g = .func (.func gf) #[] lb) (hFg : F.fn gf) (eg : ∀ args w, (callFunc gf args).run P w = .ok (.enter gf args) w)
    {encs : α → Array Value} {Kp : World → World → Prop} {G : α → World → World → Prop} {S Sp : List α → Prop} {N : Nat} {w0 : World} (hseq : SeqG F (n - 1) P gf lb encs Kp G S Sp N w0) (hG : ∀ x A C, G x A C → KeepsFrom w.heap.size A C)
    (hKt : ∀ {A B C : World}, Kp A B → Kp B C → Kp A C) (hKb : ∀ (W : World) (l : Nat) (o o' : Obj), w.heap.size ≤ l → W.heap[l]? = some o → o.isCells = false → o.isWalk = false → Kp W (W.putObj l o')) (hps : ∀ x, (encs x).size = ps.size)
    (l : Nat) (mark : List Deferred) (X : World → Prop) (hl : w.heap.size ≤ l) (hXk : ∀ A C, X A → KeepsFrom w.heap.size A C → X C) (hXp : ∀ A o, X A → X (A.putObj l o)) (hXw : ∀ (A C : World) row, X A → A.grownBy C row → (∀ r, row = some r → w.heap.size ≤ r ∧ ∃ o : Obj, A.heap[r]? = some o ∧ o.isWalk = true) → X C)
    (henter : ∀ fn, ∃ dd W1, (Instr.enterLoop fn a.tmps ps assign body F.round).run P w = .ok (l, mark) W1 ∧ W1.heap[l]? = some (.loop (recAt fn a.tmps ps assign body dd .ready none)) ∧ X W1 ∧ w.grownBy W1 none)
    (hb0 : Below w0.heap.size w0 w)
    (I : List α → World → Prop) (Ix : Code → List α → World → Prop) (hI : OwnFrom w.heap.size I) (hIx : ∀ c, OwnFrom w.heap.size (Ix c)) (h0 : I [] w) (Ax : List α → α → Act → World → Prop) (hAx : ∀ pre x a', OwnFrom w.heap.size (fun (_ : Unit) W => Ax pre x a' W))
    (hassign : ∀ (pre : List α) (x : α) (A W : World) (K : Act → World → Prop), I pre A → G x A W → pre.length < N → (∀ a' W', KeepsFrom w.heap.size W W' → Kp W W' → Ax pre x a' W' → K a' W') →
      assign.wpIn (F.inRound l) (n - 1 - 1) P (Exit.then K (fun _ _ _ => False)) { tmps := (ps.zip (encs x)).foldl (fun t (p, v) => t.setIfInBounds p v) a.tmps, defers := [] } W)
    (hbody : ∀ (pre : List α) (x : α) (a' : Act) (W : World), (∃ r, W.heap[l]? = some (.loop r)) → Ax pre x a' W → pre.length < N → body.wpIn (F.inRound l) (n - 1 - 1) P (ownPostG w.heap.size Kp I Ix (pre ++ [x]) W) a' W)
    (hdone : ∀ (xs : List α) (W : World), S xs → I xs W → X W → Q .normal { a with defers := mark ++ a.defers } W)
    (hstop : ∀ (c : Code) (pre : List α) (W : World), Sp pre → Ix c pre W → X W → c.wpIn F n P Q { a with defers := mark ++ a.defers } W) :
    (Code.rangeFunc g ps assign body).wpIn F n P Q a w := by
  refine wpIn_rangeFunc fun fn hfn => ?_
  obtain ⟨dd, W1, hrun, hrec, hX1, hgr⟩ := henter fn
  have hsz := hgr.size
  have nw : ∀ {A : World} {row : Option Nat}, (∀ r, row = some r → W1.heap.size ≤ r ∧ ∃ o : Obj, A.heap[r]? = some o ∧ o.isWalk = true) → ∀ r, row = some r → w.heap.size ≤ r ∧ ∃ o : Obj, A.heap[r]? = some o ∧ o.isCells = false := fun hr r e => by
    obtain ⟨h, o, ho, hw⟩ := hr r e
    exact ⟨by omega, o, ho, Obj.not_cells_of_walk hw⟩
  have nx : ∀ {A : World} {row : Option Nat}, (∀ r, row = some r → W1.heap.size ≤ r ∧ ∃ o : Obj, A.heap[r]? = some o ∧ o.isWalk = true) → ∀ r, row = some r → w.heap.size ≤ r ∧ ∃ o : Obj, A.heap[r]? = some o ∧ o.isWalk = true := fun hr r e => by
    obtain ⟨h, o, ho, hw⟩ := hr r e
    exact ⟨by omega, o, ho, hw⟩
  have hbel : Below w0.heap.size w0 W1 := hb0.trans (Below.mono (B := w.heap.size) ⟨hgr.os, hgr.tape, hgr.output, hgr.size, fun k hk => hgr.block k hk (by simp)⟩ hb0.size)
  refine ⟨l, mark, W1, { target := .fn (.func gf) lb, args := #[.func (.yield l) #[] #[]] }, W1, gf, #[.func (.yield l) #[] #[]] ++ lb, W1, hrun, ?_, ?_, ?_, fun _ => h1, ?_⟩
  · simp only [resolve, hg]
    simp [go_sem]
  · intro f' hf'
    simp [Target.leads] at hf'
    subst hf'
    exact hFg
  · simp [invoke, go_sem, eg]
  · refine (hseq l (fun pre W => I pre W ∧ BkG fn a.tmps ps assign body dd l X .ready none W) (fun pre W => ∃ c, Ix c pre W ∧ BkG fn a.tmps ps assign body dd l X .done (some c) W) W1 hbel
      (fun s A C row hs hg' hr => ⟨hI s A C row hs.1 hg' (nw hr), keeps_of_walk hg' hr hs.2.1 rfl, hXw A C row hs.2.2 hg' (nx hr)⟩)
      (fun s A C row hs hg' hr => by
        obtain ⟨c, hc, hk⟩ := hs
        exact ⟨c, hIx c s A C row hc hg' (nw hr), keeps_of_walk hg' hr hk.1 rfl, hXw A C row hk.2 hg' (nx hr)⟩)
      (fun pre x A W hJ hx hlen => round_G (B := w.heap.size) (Kp := Kp) (G := G) (X := X) (I := I) (Ix := Ix) (Ax := Ax) hfn hl hXk hXp hKt hKb hps hI hIx hAx hG (fun K hK => hassign pre x A W K hJ.1 hx hlen hK) (fun a' V hr hax => hbody pre x a' V hr hax hlen) hx hJ.2)
      ⟨hI [] w W1 none h0 hgr (fun r e => by cases e), hrec, hX1⟩).mono ?_
    rintro e W2 ⟨⟨v, rfl⟩, ⟨xs, hS, hi, hk⟩ | ⟨pre, hSp, c, hi, hk⟩⟩
    · exact ⟨none, _, run_endLoop hk.1 (by simp [recAt]), hdone xs _ hS (hI.putObj _ hi hl hk.1 rfl) (hXp _ _ hk.2)⟩
    · exact ⟨some c, _, run_endLoop hk.1 (by simp [recAt]), hstop c pre _ hSp ((hIx c).putObj _ hi hl hk.1 rfl) (hXp _ _ hk.2)⟩
end Go.Proofs.YtbdkalicgpdbkaaDoor
