/-
  PLAIN MATHEMATICS: signs of UTF-8 as the document tells them, held against the library's decoder.
  WALKS: satchelref3.tail, sign, Line, Name: for every text.
  WALKS: satchelref3.Line, Name: for every text.
  DRAWN REGIONS within a round of a range over a function: what is walked outside a fence holds there too. No Go text is named here.
  The two forms of a range whose rounds know what they are handed: at a loop that stands in no other, and at one in another's round. No Go text is named here.
  A range whose rounds know what they are handed, in no other loop, all ways out coming to one. No Go text is named here.
-/
import Derived.Test.YtddhhjgegkkjbaaGreatDoorObj1
import Derived.Test.YtddhhjgegkkjbaaGreatDoorPlain
import Derived.Test.YtddhhjgegkkjbaaGreatDoorRgG
import Derived.Test.YtddhhjgegkkjbaaGreatDoorQuietId
import Derived.OrdersHeld
import Derived.OrdersIn
namespace Go.Proofs.YtddhhjgegkkjbaaGreatDoor
open Go.RowKit

def tlB (xs : List Int) (k : Nat) (lo hi : Int) : Bool := decide (k < xs.length) && decide (lo ≤ xs.getD k 0) && decide (xs.getD k 0 ≤ hi)
/-- How many bytes the sign at the front takes; 0: none is there. -/
def signN (xs : List Int) : Nat :=
  if xs.getD 0 0 < 128 then 1
  else if 194 ≤ xs.getD 0 0 ∧ xs.getD 0 0 ≤ 223 then (if tlB xs 1 128 191 = true then 2 else 0)
  else if 224 ≤ xs.getD 0 0 ∧ xs.getD 0 0 ≤ 239 then (if tlB xs 1 (if xs.getD 0 0 = 224 then 160 else 128) (if xs.getD 0 0 = 237 then 159 else 191) = true ∧ tlB xs 2 128 191 = true then 3 else 0)
  else if 240 ≤ xs.getD 0 0 ∧ xs.getD 0 0 ≤ 244 then (if tlB xs 1 (if xs.getD 0 0 = 240 then 144 else 128) (if xs.getD 0 0 = 244 then 143 else 191) = true ∧ tlB xs 2 128 191 = true ∧ tlB xs 3 128 191 = true then 4 else 0)
  else 0

/-- A sign's bytes behind its first are above 127, and it lies within the text. -/
theorem sign_high (xs : List Int) (h : signN xs ≠ 0) (hne : 0 < xs.length) : signN xs ≤ xs.length ∧ ∀ k, 1 ≤ k → k < signN xs → 128 ≤ xs.getD k 0 := by
  have ht : ∀ k lo hi, 128 ≤ lo → tlB xs k lo hi = true → k < xs.length ∧ 128 ≤ xs.getD k 0 := by
    intro k lo hi hlo hb
    unfold tlB at hb
    simp only [Bool.and_eq_true, decide_eq_true_eq] at hb
    omega
  have hi1 : ∀ c : Int, (128 : Int) ≤ (if c = 224 then 160 else 128) := fun c => by split <;> omega
  have hi2 : ∀ c : Int, (128 : Int) ≤ (if c = 240 then 144 else 128) := fun c => by split <;> omega
  unfold signN at h ⊢
  by_cases c0 : xs.getD 0 0 < 128
  · rw [if_pos c0]
    exact ⟨by omega, fun k h1 h2 => by omega⟩
  rw [if_neg c0] at h ⊢
  by_cases c1 : 194 ≤ xs.getD 0 0 ∧ xs.getD 0 0 ≤ 223
  · rw [if_pos c1] at h ⊢
    by_cases d1 : tlB xs 1 128 191 = true
    · rw [if_pos d1]
      have a1 := ht 1 _ _ (by omega) d1
      refine ⟨by omega, fun k h1 h2 => ?_⟩
      obtain rfl : k = 1 := by omega
      exact a1.2
    · rw [if_neg d1] at h
      exact absurd rfl h
  rw [if_neg c1] at h ⊢
  by_cases c2 : 224 ≤ xs.getD 0 0 ∧ xs.getD 0 0 ≤ 239
  · rw [if_pos c2] at h ⊢
    by_cases d1 : tlB xs 1 (if xs.getD 0 0 = 224 then 160 else 128) (if xs.getD 0 0 = 237 then 159 else 191) = true ∧ tlB xs 2 128 191 = true
    · rw [if_pos d1]
      have a1 := ht 1 _ _ (hi1 _) d1.1
      have a2 := ht 2 _ _ (by omega) d1.2
      refine ⟨by omega, fun k h1 h2 => ?_⟩
      rcases (by omega : k = 1 ∨ k = 2) with rfl | rfl
      · exact a1.2
      · exact a2.2
    · rw [if_neg d1] at h
      exact absurd rfl h
  rw [if_neg c2] at h ⊢
  by_cases c3 : 240 ≤ xs.getD 0 0 ∧ xs.getD 0 0 ≤ 244
  · rw [if_pos c3] at h ⊢
    by_cases d1 : tlB xs 1 (if xs.getD 0 0 = 240 then 144 else 128) (if xs.getD 0 0 = 244 then 143 else 191) = true ∧ tlB xs 2 128 191 = true ∧ tlB xs 3 128 191 = true
    · rw [if_pos d1]
      have a1 := ht 1 _ _ (hi2 _) d1.1
      have a2 := ht 2 _ _ (by omega) d1.2.1
      have a3 := ht 3 _ _ (by omega) d1.2.2
      refine ⟨by omega, fun k h1 h2 => ?_⟩
      rcases (by omega : k = 1 ∨ k = 2 ∨ k = 3) with rfl | rfl | rfl
      · exact a1.2
      · exact a2.2
      · exact a3.2
    · rw [if_neg d1] at h
      exact absurd rfl h
  rw [if_neg c3] at h
  exact absurd rfl h

/-- The document's own reading of a line from a place on: sign by sign. -/
def lineW : Nat → List Int → Bool
  | 0, _ => true
  | f + 1, xs => if xs = [] then true else if signN xs = 0 ∨ okByte (xs.getD 0 0) = false then false else lineW f (xs.drop (signN xs))
end Go.Proofs.YtddhhjgegkkjbaaGreatDoor

namespace Go.Proofs.YtddhhjgegkkjbaaGreatDoor
open Go.RowKit

theorem getD_drop (xs : List Int) (k j : Nat) : (xs.drop k).getD j 0 = xs.getD (k + j) 0 := by
  rw [List.getD_eq_getElem?_getD, List.getD_eq_getElem?_getD, List.getElem?_drop]
end Go.Proofs.YtddhhjgegkkjbaaGreatDoor

namespace Go.Proofs.YtddhhjgegkkjbaaGreatDoor
open Go.RowKit

/-- What is left of a line to be read, behind k bytes. -/
def LRun (xs : List Int) (k : Nat) : Prop := ∃ f, (xs.drop k).length ≤ f ∧ lineW xs.length xs = lineW f (xs.drop k)
theorem LRun.start (xs : List Int) : LRun xs 0 := ⟨xs.length, by simp, by simp⟩
theorem LRun.bad {xs : List Int} {k : Nat} (h : LRun xs k) (hk : k < xs.length) (hb : signN (xs.drop k) = 0 ∨ okByte (xs.getD k 0) = false) : lineW xs.length xs = false := by
  obtain ⟨f, hf, e⟩ := h
  rw [List.length_drop] at hf
  rw [e]
  cases f with
  | zero => omega
  | succ f =>
    have hne : xs.drop k ≠ [] := by
      intro h0
      have := congrArg List.length h0
      rw [List.length_drop] at this
      simp at this
      omega
    unfold lineW
    rw [if_neg hne, getD_drop, Nat.add_zero, if_pos hb]
theorem LRun.on {xs : List Int} {k : Nat} (h : LRun xs k) (hk : k < xs.length) (hs : signN (xs.drop k) ≠ 0) (hb : okByte (xs.getD k 0) = true) : LRun xs (k + signN (xs.drop k)) ∧ k + signN (xs.drop k) ≤ xs.length := by
  obtain ⟨f, hf, e⟩ := h
  rw [List.length_drop] at hf
  have hp : 0 < (xs.drop k).length := by rw [List.length_drop]; omega
  have h3 := (sign_high (xs.drop k) hs hp).1
  rw [List.length_drop] at h3
  cases f with
  | zero => omega
  | succ f =>
    have hne : xs.drop k ≠ [] := List.length_pos_iff.1 hp
    refine ⟨⟨f, by rw [List.length_drop]; omega, ?_⟩, by omega⟩
    rw [e]
    conv => lhs; unfold lineW
    rw [if_neg hne, getD_drop, Nat.add_zero, if_neg (by rintro (h | h); · exact hs h
                                                        · rw [hb] at h; cases h), List.drop_drop]
end Go.Proofs.YtddhhjgegkkjbaaGreatDoor

namespace Go.Proofs.YtddhhjgegkkjbaaGreatDoor
open Go.RowKit

/-- It is left by its end alone. -/
def NrmQ (Q : Exit → Act → World → Prop) (e : Exit) (a : Act) (w : World) : Prop := e = .normal ∧ Q .normal a w
theorem NrmQ.lets (Q : Exit → Act → World → Prop) : ¬ LetsOut (NrmQ Q) := fun ⟨_, _, h⟩ => by cases h.1
theorem NrmQ.panic {Q : Exit → Act → World → Prop} {c : List PanicEntry} {a b : Act} {w : World} (h : NrmQ Q (.panic c) a w) : NrmQ Q (.panic c) b w := by cases h.1
section
variable {P : Program} {l n : Nat} {Q : Exit → Act → World → Prop}
theorem op_in_round {R : Exit → Act → World → Prop} {o : Oper} {a : Act} {w : World} {K : Act → World → Prop} (hd : ∀ c, o.op ≠ .defer c) (h : o.wp P a w K (NrmQ R)) : o.wpIn (Fence.wide.inRound l) n P a w K Q := by
  refine ⟨fun _ _ => trivial, ?_⟩
  rw [Oper.semAt_plain (Fence.wide.inRound l) _ _ hd]
  unfold Oper.wp at h
  cases hr : (execOp a.eval o).run P w with
  | ok x w' =>
    rw [hr] at h
    cases x with
    | value v => exact h
    | skip => exact h
    | defer d => exact h
    | enter f args =>
      refine ⟨(fun h => by cases h), CallsIn.inRound l (callsIn_wide.2 (Calls.mono h ?_))⟩
      intro e w2 he
      cases e with
      | returned v => exact he
      | panicked c => cases he.1
      | outgrown => exact absurd he (NrmQ.lets R)
    | row r args =>
      refine ⟨(fun h => by cases h), fun c cs _ => ?_⟩
      obtain ⟨v, w2, h1, h2⟩ := h c cs
      exact ⟨v, w2, h1, stepsIn_wide.2 h2⟩
    | _ => exact h.elim
  | halt x w' =>
    rw [hr] at h
    cases x with
    | panic v => cases h.1
    | _ => exact h.elim
theorem any_in_round {R : Exit → Act → World → Prop} (hR : ∀ a w, R .normal a w → Q .normal a w) {md : Region.Mode} {ops : Array Oper} (hd : ∀ (i : Nat) (o : Oper), ops[i]? = some o → ∀ c, o.op ≠ .defer c) : ∀ (fuel : Nat) (listed : Array Bool) (a : Act) (w : World), wpAny P md ops (NrmQ R) fuel listed a w → wpAnyIn (Fence.wide.inRound l) n P md ops Q fuel listed a w
  | 0, _, _, _, h => ⟨h.1, hR _ _ h.2.2⟩
  | fuel + 1, _, a, _, h => ⟨fun e => hR _ _ (h.1 e).2, fun i hi => by
    have h1 := h.2 i hi
    unfold wpOp at h1
    unfold wpOpIn
    cases ho : ops[i]? with
    | none =>
      rw [ho] at h1
      exact any_in_round hR hd fuel _ _ _ h1
    | some o =>
      rw [ho] at h1
      simp only at h1 ⊢
      by_cases hw : Region.wanted o (yielded ops a.tmps) = true
      · rw [if_pos hw] at h1 ⊢
        rcases h1 with h1 | h1
        · refine op_in_round (hd i o ho) (Oper.wp_mono ?_ h1)
          exact fun a' w' h' => any_in_round hR hd fuel _ _ _ h'
        · exact absurd h1.2 (NrmQ.lets R)
      · rw [if_neg hw] at h1 ⊢
        exact ⟨fun _ _ => trivial, any_in_round hR hd fuel _ _ _ h1⟩⟩
def noDefer (o : Oper) : Bool := match o.op with | .defer _ => false | _ => true
theorem noDefer_all {ops : Array Oper} (h : ops.all noDefer = true) : ∀ (i : Nat) (o : Oper), ops[i]? = some o → ∀ c, o.op ≠ .defer c := fun i o ho c e => by
  have h1 := (Array.all_eq_true_iff_forall_mem.1 h) o (Array.mem_of_getElem? ho)
  unfold noDefer at h1
  rw [e] at h1
  cases h1
/-- A drawn region in a round, walked once over a class of worlds. -/
theorem round_quiet {id : Nat} {a : Act} {w : World} {ls : List Oper} (C : World → Prop) (hm : P.follows .mixedOrders = true) (hB : Region.lexB .any ls.toArray = true) (hd : ls.toArray.all noDefer = true) (hC : C w.drew)
    (h : wpQuiet P ls.toArray C (fun a' => ∀ w', C w' → Q .normal a' w') ls a) : (Code.region id ls.toArray true).wpIn (Fence.wide.inRound l) n P Q a w := by
  refine wpIn_region_any hm (any_in_round (R := Q) (fun _ _ h => h) (noDefer_all hd) _ _ _ _ ?_)
  simp only [Region.lexB, Bool.and_eq_true] at hB
  refine wpAny_of_quiet (C := C) (Q := fun a' => ∀ w', C w' → Q .normal a' w') (fun _ w' hw' h => ⟨rfl, h w' hw'⟩) _ _ _ _ hC ?_
  have := wpAnyQ_lex (C := C) (md := .any) hB.1 ls.toArray.toList 0 (Array.replicate ls.toArray.size false) a (by simp) (by simpa using hB.2) (by simpa using h)
  simpa using this
/-- A range's contract within a round. -/
theorem SeqG.inRound {α : Type} {F : Fence} {g : Nat} {lb : Array Value} {encs : α → Array Value} {Kp : World → World → Prop} {G : α → World → World → Prop} {S Sp : List α → Prop} {N : Nat} {w : World} (l : Nat) (h : SeqG F n P g lb encs Kp G S Sp N w) : SeqG (F.inRound l) n P g lb encs Kp G S Sp N w := h
end
end Go.Proofs.YtddhhjgegkkjbaaGreatDoor

namespace Go.Proofs.YtddhhjgegkkjbaaGreatDoor
open Go.RowKit

/-- The frame ahead of a statement gets a name. -/
theorem wpIn_cap {F : Fence} {n : Nat} {P : Program} {c : Code} {Q : Exit → Act → World → Prop} {a : Act} {w : World} (h : ∀ T0, T0 = a.tmps → c.wpIn F n P Q { tmps := T0, defers := a.defers } w) : c.wpIn F n P Q a w := h _ rfl
section
variable {α : Type} {F : Fence} {n : Nat} {P : Program} {g : Operand} {ps : Array Tmp} {assign body : Code} {Q : Exit → Act → World → Prop} {a : Act} {w : World}
  {gf : Nat} {lb : Array Value} {encs : α → Array Value} {Kp : World → World → Prop} {G : α → World → World → Prop} {S Sp : List α → Prop} {N : Nat} {w0 : World}
/-- In no other loop. -/
theorem wpIn_rangeG_out (hro : F.round = none) (h1 : 1 ≤ n) (hg : a.eval g = .func (.func gf) #[] lb) (hFg : F.fn gf) (eg : ∀ args w, (callFunc gf args).run P w = .ok (.enter gf args) w)
    (hseq : SeqG F (n - 1) P gf lb encs Kp G S Sp N w0) (hG : ∀ x A C, G x A C → KeepsFrom w.heap.size A C)
    (hKt : ∀ {A B C : World}, Kp A B → Kp B C → Kp A C) (hKb : ∀ (W : World) (l : Nat) (o o' : Obj), w.heap.size ≤ l → W.heap[l]? = some o → o.isCells = false → o.isWalk = false → Kp W (W.putObj l o')) (hps : ∀ x, (encs x).size = ps.size)
    (hb0 : Below w0.heap.size w0 w)
    (I : List α → World → Prop) (Ix : Code → List α → World → Prop) (hI : OwnFrom w.heap.size I) (hIx : ∀ c, OwnFrom w.heap.size (Ix c)) (h0 : I [] w) (Ax : List α → α → Act → World → Prop) (hAx : ∀ pre x a', OwnFrom w.heap.size (fun (_ : Unit) W => Ax pre x a' W))
    (hassign : ∀ (pre : List α) (x : α) (A W : World) (K : Act → World → Prop), I pre A → G x A W → pre.length < N → (∀ a' W', KeepsFrom w.heap.size W W' → Kp W W' → Ax pre x a' W' → K a' W') →
      assign.wpIn (F.inRound (w.heap.size + 1)) (n - 1 - 1) P (Exit.then K (fun _ _ _ => False)) { tmps := (ps.zip (encs x)).foldl (fun t (p, v) => t.setIfInBounds p v) a.tmps, defers := [] } W)
    (hbody : ∀ (pre : List α) (x : α) (a' : Act) (W : World), (∃ r, W.heap[w.heap.size + 1]? = some (.loop r)) → Ax pre x a' W → pre.length < N → body.wpIn (F.inRound (w.heap.size + 1)) (n - 1 - 1) P (ownPostG w.heap.size Kp I Ix (pre ++ [x]) W) a' W)
    (hdone : ∀ (xs : List α) (W : World), S xs → I xs W → W.heap[w.heap.size]? = some (.deferred (some [])) → Q .normal { a with defers := { target := .collected w.heap.size, args := #[] } :: a.defers } W)
    (hstop : ∀ (c : Code) (pre : List α) (W : World), Sp pre → Ix c pre W → W.heap[w.heap.size]? = some (.deferred (some [])) → c.wpIn F n P Q { a with defers := { target := .collected w.heap.size, args := #[] } :: a.defers } W) :
    (Code.rangeFunc g ps assign body).wpIn F n P Q a w := by
  refine wpIn_rangeG h1 hg hFg eg hseq hG hKt hKb hps (w.heap.size + 1) [{ target := .collected w.heap.size, args := #[] }] (fun W => W.heap[w.heap.size]? = some (.deferred (some []))) (Nat.le_succ _)
    (fun A C h k => k.same _ _ (Nat.le_refl _) h rfl) (fun A o h => (World.putObj_heap_other (by omega)).trans h) (fun A C row h hg' hr => keeps_of_walk hg' hr h rfl) (fun fn => ?_) hb0 I Ix hI hIx h0 Ax hAx hassign hbody hdone hstop
  rw [hro]
  refine ⟨w.heap.size, _, run_enterLoop_outer _ _ _ _ _, ?_, ?_, ?_⟩
  · have := World.alloc_heap_new (w.alloc (.deferred (some []))) (.loop (recAt fn a.tmps ps assign body w.heap.size .ready none))
    rwa [World.size_alloc] at this
  · exact (Below.heap_alloc _ _ _ (by simp)).trans (World.alloc_heap_new w _)
  · have k : Kept [] w ((w.alloc (.deferred (some []))).alloc (.loop (recAt fn a.tmps ps assign body w.heap.size .ready none))) := ((Kept.refl [] w).alloc _).alloc _
    exact k.grows
end
end Go.Proofs.YtddhhjgegkkjbaaGreatDoor

namespace Go.Proofs.YtddhhjgegkkjbaaGreatDoor
open Go.RowKit
theorem wpIn_rangeG_oneO {α : Type} {F : Fence} {n : Nat} {P : Program} {g : Operand} {ps : Array Tmp} {assign body : Code} {Q : Exit → Act → World → Prop} {a : Act} {w : World}
    {gf : Nat} {lb : Array Value} {encs : α → Array Value} {Kp : World → World → Prop} {G : α → World → World → Prop} {S Sp : List α → Prop} {N : Nat} {w0 : World}
    (hro : F.round = none) (h1 : 1 ≤ n) (hg : a.eval g = .func (.func gf) #[] lb) (hFg : F.fn gf) (eg : ∀ args w, (callFunc gf args).run P w = .ok (.enter gf args) w)
    (hseq : SeqG F (n - 1) P gf lb encs Kp G S Sp N w0) (hG : ∀ x A C, G x A C → KeepsFrom w.heap.size A C)
    (hKt : ∀ {A B C : World}, Kp A B → Kp B C → Kp A C) (hKb : ∀ (W : World) (l : Nat) (o o' : Obj), w.heap.size ≤ l → W.heap[l]? = some o → o.isCells = false → o.isWalk = false → Kp W (W.putObj l o')) (hps : ∀ x, (encs x).size = ps.size)
    (hb0 : Below w0.heap.size w0 w) (k : Nat) (R : World → Prop)
    (I : List α → World → Prop) (Ix : Code → List α → World → Prop) (hI : OwnFrom w.heap.size I) (hIx : ∀ c, OwnFrom w.heap.size (Ix c)) (h0 : I [] w) (Ax : List α → α → Act → World → Prop) (hAx : ∀ pre x a', OwnFrom w.heap.size (fun (_ : Unit) W => Ax pre x a' W))
    (hassign : ∀ (pre : List α) (x : α) (A W : World) (K : Act → World → Prop), I pre A → G x A W → pre.length < N → (∀ a' W', KeepsFrom w.heap.size W W' → Kp W W' → Ax pre x a' W' → K a' W') →
      assign.wpIn (F.inRound (w.heap.size + 1)) (n - 1 - 1) P (Exit.then K (fun _ _ _ => False)) { tmps := (ps.zip (encs x)).foldl (fun t (p, v) => t.setIfInBounds p v) a.tmps, defers := [] } W)
    (hbody : ∀ (pre : List α) (x : α) (a' : Act) (W : World), (∃ r, W.heap[w.heap.size + 1]? = some (.loop r)) → Ax pre x a' W → pre.length < N → body.wpIn (F.inRound (w.heap.size + 1)) (n - 1 - 1) P (ownPostG w.heap.size Kp I Ix (pre ++ [x]) W) a' W)
    (hdone : ∀ (xs : List α) (W : World), S xs → I xs W → R W) (hstop : ∀ (c : Code) (pre : List α) (W : World), Sp pre → Ix c pre W → c = .exit k ∧ R W)
    (hexit : ∀ W, Q .normal { a with defers := { target := .collected w.heap.size, args := #[] } :: a.defers } W → Q (.exit k) { a with defers := { target := .collected w.heap.size, args := #[] } :: a.defers } W)
    (hcont : ∀ W, R W → W.heap[w.heap.size]? = some (.deferred (some [])) → Q .normal { a with defers := { target := .collected w.heap.size, args := #[] } :: a.defers } W) :
    (Code.rangeFunc g ps assign body).wpIn F n P Q a w :=
  wpIn_rangeG_out hro h1 hg hFg eg hseq hG hKt hKb hps hb0 I Ix hI hIx h0 Ax hAx hassign hbody (fun xs W hS hi hD => hcont W (hdone xs W hS hi) hD) (fun c pre W hS hi hD => by
    obtain ⟨rfl, hR⟩ := hstop c pre W hS hi
    exact wpIn_exit (hexit W (hcont W hR hD)))
end Go.Proofs.YtddhhjgegkkjbaaGreatDoor
