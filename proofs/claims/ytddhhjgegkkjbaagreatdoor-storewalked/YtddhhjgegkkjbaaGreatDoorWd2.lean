/-
  What StoreWalked keeps from round to round; cuts of a walk; the marks that ranges leave are taken off.
-/
import Derived.Test.YtddhhjgegkkjbaaGreatDoorWd0
import Derived.Test.YtddhhjgegkkjbaaGreatDoorRgO
import Derived.Sort.LoopGhostIn
namespace Go.Proofs.YtddhhjgegkkjbaaGreatDoor
open Go.RowKit Go.WideMaps

theorem hide {p : Prop} (h : p) : Hid p := h
theorem list_form (l : List Value) (n : Nat) (h : l.length = n) : l = (List.range n).map (fun i => l[i]?.getD undef) := by
  refine List.ext_getElem? fun i => ?_
  rw [List.getElem?_map]
  by_cases hi : i < n
  · rw [List.getElem?_range hi]
    have hl : i < l.length := by omega
    simp [hl]
  · rw [List.getElem?_eq_none (by omega), List.getElem?_eq_none (by simp; omega)]
    rfl
set_option maxRecDepth 100000 in
/-- A frame of 126 temporaries, written out. -/
theorem frame126 (T : Array Value) (h : T.toList.length = 126) : ∃ u : Nat → Value, T = #[u 0, u 1, u 2, u 3, u 4, u 5, u 6, u 7, u 8, u 9, u 10, u 11, u 12, u 13, u 14, u 15, u 16, u 17, u 18, u 19, u 20, u 21, u 22, u 23, u 24, u 25, u 26, u 27, u 28, u 29, u 30, u 31, u 32, u 33, u 34, u 35, u 36, u 37, u 38, u 39, u 40, u 41, u 42, u 43, u 44, u 45, u 46, u 47, u 48, u 49, u 50, u 51, u 52, u 53, u 54, u 55, u 56, u 57, u 58, u 59, u 60, u 61, u 62, u 63, u 64, u 65, u 66, u 67, u 68, u 69, u 70, u 71, u 72, u 73, u 74, u 75, u 76, u 77, u 78, u 79, u 80, u 81, u 82, u 83, u 84, u 85, u 86, u 87, u 88, u 89, u 90, u 91, u 92, u 93, u 94, u 95, u 96, u 97, u 98, u 99, u 100, u 101, u 102, u 103, u 104, u 105, u 106, u 107, u 108, u 109, u 110, u 111, u 112, u 113, u 114, u 115, u 116, u 117, u 118, u 119, u 120, u 121, u 122, u 123, u 124, u 125] := by
  obtain ⟨l⟩ := T
  refine ⟨fun i => l[i]?.getD undef, ?_⟩
  have h1 := list_form l 126 h
  rw [show List.range 126 = [0, 1, 2, 3, 4, 5, 6, 7, 8, 9, 10, 11, 12, 13, 14, 15, 16, 17, 18, 19, 20, 21, 22, 23, 24, 25, 26, 27, 28, 29, 30, 31, 32, 33, 34, 35, 36, 37, 38, 39, 40, 41, 42, 43, 44, 45, 46, 47, 48, 49, 50, 51, 52, 53, 54, 55, 56, 57, 58, 59, 60, 61, 62, 63, 64, 65, 66, 67, 68, 69, 70, 71, 72, 73, 74, 75, 76, 77, 78, 79, 80, 81, 82, 83, 84, 85, 86, 87, 88, 89, 90, 91, 92, 93, 94, 95, 96, 97, 98, 99, 100, 101, 102, 103, 104, 105, 106, 107, 108, 109, 110, 111, 112, 113, 114, 115, 116, 117, 118, 119, 120, 121, 122, 123, 124, 125] from rfl] at h1
  exact congrArg List.toArray h1
/-- A walk in two parts: a word between them. -/
theorem wpIn_mid {F : Fence} {n : Nat} {P : Program} {A B : Code} {Q : Exit → Act → World → Prop} {a : Act} {w : World} (Mid : Act → World → Prop) (h1 : A.wpIn F n P (Exit.then Mid (fun _ _ _ => False)) a w) (h2 : ∀ a' w', Mid a' w' → B.wpIn F n P Q a' w') : (A.seq B).wpIn F n P Q a w :=
  wpIn_seq (wpIn_mono h1 (fun e a' w' h => by
    cases e with
    | normal => exact h2 _ _ h
    | _ => exact h.elim))
theorem wpIn_midH {F : Fence} {n : Nat} {P : Program} {A B : Code} {Q : Exit → Act → World → Prop} {a : Act} {w : World} (Mid : Act → World → Prop) (h1 : ∀ M : Act → World → Prop, Hid (∀ a' w', Mid a' w' → M a' w') → A.wpIn F n P (Exit.then M (fun _ _ _ => False)) a w) (h2 : ∀ a' w', Mid a' w' → B.wpIn F n P Q a' w') : (A.seq B).wpIn F n P Q a w := wpIn_mid Mid (h1 Mid (fun _ _ h => h)) h2
/-- The same at the end of a block. -/
theorem wpIn_endH {F : Fence} {n : Nat} {P : Program} {A : Code} {Q : Exit → Act → World → Prop} {a : Act} {w : World} (Mid : Act → World → Prop) (h1 : ∀ M : Act → World → Prop, Hid (∀ a' w', Mid a' w' → M a' w') → A.wpIn F n P (Exit.then M (fun _ _ _ => False)) a w) (h2 : ∀ a' w', Mid a' w' → Q .normal a' w') : A.wpIn F n P Q a w :=
  wpIn_mono (h1 Mid (fun _ _ h => h)) (fun e a' w' h => by
    cases e with
    | normal => exact h2 _ _ h
    | _ => exact h.elim)
theorem wpIn_stop {F : Fence} {n : Nat} {P : Program} {A B : Code} {Q : Exit → Act → World → Prop} {a : Act} {w : World} (h : ∀ K : Act → World → Prop, Hid (∀ a' w', B.wpIn F n P Q a' w' → K a' w') → A.wpIn F n P (Exit.then K Q) a w) : (A.seq B).wpIn F n P Q a w := wpIn_seq (h _ (fun _ _ q => q))
/-- A loop whose word bears a number; what a round hands on stands behind a letter. -/
theorem wpIn_loop_hid {F : Fence} {rm : Nat} {P : Program} {Q : Exit → Act → World → Prop} {a : Act} {w : World} {c : Code} (I : Nat → Act → World → Prop) (n0 : Nat) (h0 : I n0 a w)
    (round : ∀ n a w, I n a w → ∀ K : Act → World → Prop, Hid (∀ a' w', (∃ n', n' < n ∧ I n' a' w') → K a' w') → c.wpIn F rm P (Exit.then K Q) a w) : (Code.loop c).wpIn F rm P Q a w :=
  wpIn_loop_ghost I n0 h0 fun n a w h => round n a w h _ (fun _ _ q => q)
def markD (m : Nat) : Deferred := { target := .collected m, args := #[] }
/-- The marks are taken off one behind the other. -/
theorem leaves_marks {F : Fence} {n : Nat} {P : Program} {fn : Func} {tmps : Array Value} {R : Ending → World → Prop} : ∀ (ms : List Nat) (w : World), (∀ m, m ∈ ms → w.heap[m]? = some (.deferred (some []))) → ms.Nodup →
    (∀ w', Kept ms w w' → LeavesInM F n P fn tmps R [] .returning w') → LeavesInM F n P fn tmps R (ms.map markD) .returning w
  | [], w, _, _, h => h w (Kept.refl _ _)
  | m :: ms, w, h1, h2, h => by
    have h3 := List.nodup_cons.1 h2
    refine ⟨by simp, .inl ⟨m, _, rfl, run_takeDeferred (h1 m (by simp)), leaves_marks ms _ (fun q hq => ?_) h3.2 (fun w' k => h w' ?_)⟩⟩
    · exact (World.putObj_heap_other (fun e => h3.1 (by rw [← e]; exact hq))).trans (h1 q (by simp [hq]))
    · have k1 : Kept (m :: ms) w (w.putObj m (.deferred none)) := (Kept.refl _ _).grown (grownBy_putObj' _ _ _) (fun r e => Or.inl (by cases e; simp))
      exact k1.trans k (fun x hx => Or.inl (by simp [hx]))
theorem TurnsNone.keptS {B : Nat} {S : List Nat} {w W W' : World} {row : Option Nat} (h : TurnsNone B W W' row) (k : Kept S w W) (hB : w.heap.size ≤ B) : Kept S w W' :=
  k.grown h.1 (fun r e => Or.inr (by have := (h.2 r e).1; omega))
/-- What a round may do beside its own word. -/
structure Mv (G : Nat → Prop) (B : Nat) (W W' : World) : Prop where
  kf : KeepsFrom B W W'
  kp : KpS G W W'
theorem Mv.trans {G : Nat → Prop} {B : Nat} {X Y Z : World} (h : Mv G B X Y) (k : Mv G B Y Z) : Mv G B X Z := ⟨h.kf.trans k.kf, KpS.trans h.kp k.kp⟩
theorem Mv.nil {G : Nat → Prop} {B : Nat} {W W' : World} (k : Kept [] W W') (hG : ∀ y, G y → y < W.heap.size) : Mv G B W W' := ⟨k.others (by simp) _, KpS.of_kept k (by simp) (by simp) hG⟩
theorem Mv.cells {G : Nat → Prop} {B : Nat} {S : List Nat} {W W' : World} (k : Kept S W W') (hS : ∀ y, y ∈ S → (∃ c t fr, W.heap[y]? = some (.cells c t fr) ∧ t ≠ 68) ∧ ¬ G y) (hG : ∀ y, G y → y < W.heap.size) : Mv G B W W' := by
  refine ⟨k.others (fun x hx => ?_) _, KpS.of_kept k (fun x hx c hc => ?_) (fun x hx => (hS x hx).2) hG⟩
  · obtain ⟨⟨c, t, fr, h, _⟩, _⟩ := hS x hx
    exact ⟨c, t, fr, h⟩
  · obtain ⟨⟨c', t, fr, h, ht⟩, _⟩ := hS x hx
    rw [h] at hc
    injection hc with hc
    injection hc with _ hc _
    exact ht hc
theorem Mv.map {G : Nat → Prop} {B b : Nat} {W W' : World} (k : Kept [b] W W') (hm : ∃ es clock, W.heap[b]? = some (.map es clock)) (hb : b < B) (hGb : ¬ G b) (hG : ∀ y, G y → y < W.heap.size) : Mv G B W W' := by
  refine ⟨⟨k.size, fun i o hi hio _ => (k.block i (Array.getElem?_eq_some_iff.1 hio).1 (fun hx => ?_)).trans hio⟩, KpS.of_kept k (fun x hx c hc => ?_) (fun x hx => ?_) hG⟩
  · have := List.mem_singleton.1 hx
    omega
  · obtain ⟨es, clock, h⟩ := hm
    rw [List.mem_singleton.1 hx, h] at hc
    cases hc
  · rw [List.mem_singleton.1 hx]
    exact hGb
theorem FlT.isMap [TabC] {W : World} {s b n : Nat} {D : DataW Unit} (h : FlT W s b n D) : ∃ es clock, W.heap[b]? = some (.map es clock) := by
  obtain ⟨es, clock, hm, _⟩ := h.st.own
  exact ⟨es, clock, hm⟩
theorem FlT.cells_ne [TabC] {W : World} {s b n : Nat} {D : DataW Unit} (h : FlT W s b n D) {k : Nat} {c : Array Value} {t : TypeId} {fr : Nat × Nat} (hk : W.heap[k]? = some (.cells c t fr)) : k ≠ b := fun e => by
  obtain ⟨es, clock, hm⟩ := h.isMap
  rw [e, hm] at hk
  cases hk
theorem FlT.gof_ne [TabC] {W : World} {s b n : Nat} {D : DataW Unit} (h : FlT W s b n D) : ¬ Gof D b := fun ⟨kl, m, c, h1, h2, _⟩ => by
  obtain ⟨g, c', xs, e1, e2, _⟩ := h.st.lists kl h1
  obtain ⟨rfl, _, _⟩ := slD_inj (h2.symm.trans e1)
  exact e2 rfl
theorem IdsAt.offMap [TabC] {W W' : World} {s b n : Nat} {D : DataW Unit} (hf : FlT W s b n D) {v : Value} {ids : List (List Int)} (h : IdsAt W v ids) (hg : ∀ id, id ∈ ids → GoodID id) (k : Kept [b] W W') : IdsAt W' v ids := by
  refine h.keep k (fun hne x hx hm => ?_)
  obtain ⟨ao, cap, rfl, _, _, _, hc⟩ := h
  obtain ⟨g, off, rfl, hh⟩ := hc hne
  obtain rfl : g = x := by simpa [blkOf] using hx
  obtain ⟨y, ys, rfl⟩ : ∃ y ys, ids = y :: ys := by
    cases ids with
    | nil => exact absurd rfl hne
    | cons y ys => exact ⟨y, ys, rfl⟩
  have h1 := hh 0 y rfl
  have hl := (hg y (by simp)).1
  obtain ⟨z, zs, rfl⟩ : ∃ z zs, y = z :: zs := by
    cases y with
    | nil => simp at hl
    | cons z zs => exact ⟨z, zs, rfl⟩
  have h2 := h1 0 (.int .u8 z) rfl
  obtain ⟨es, clock, hmap⟩ := hf.isMap
  have hgb : g = b := by simpa using hm
  subst hgb
  unfold World.cell? at h2
  simp only [hmap] at h2
  cases h2
theorem IdBox.offMap [TabC] {W W' : World} {s b n : Nat} {D : DataW Unit} (hf : FlT W s b n D) {B bx : Nat} {ao : Option Addr} {cap : Nat} {L : List (List Int)} (h : IdBox W B bx ao cap L) (k : Kept [b] W W') : IdBox W' B bx ao cap L := by
  refine ⟨k.heap h.box (by simpa using hf.cells_ne h.box), ownsK_on h.own k (fun q hq => ?_)⟩
  obtain ⟨_, _, c, hc⟩ := h.blk hq
  simpa using hf.cells_ne hc
/-- One more is laid behind the others: which blocks were written to. -/
theorem IdBox.pushS {W W5 w6 : World} {B bx : Nat} {ao : Option Addr} {cap : Nat} {L : List (List Int)} (_h : IdBox W B bx ao cap L) {v6 : Value} (k5 : Kept [] W W5) (hgr : W5.grownBy w6 (Value.slice ao L.length cap).ownBlock) :
    ∃ S, Kept S W (w6.setCell ⟨bx, 0, none⟩ v6) ∧ ∀ y, y ∈ S → y = bx ∨ (Value.slice ao L.length cap).ownBlock = some y := by
  have k7 : Kept [bx] w6 (w6.setCell ⟨bx, 0, none⟩ v6) := (Kept.refl [bx] _).setCell (p := ⟨bx, 0, none⟩) (Or.inl (by simp)) _
  cases hb : (Value.slice ao L.length cap).ownBlock with
  | none =>
    rw [hb] at hgr
    have k6 : Kept [] W5 w6 := (Kept.refl _ _).grown hgr (fun _ e => by cases e)
    exact ⟨[bx], ((k5.then k6).more (by simp)).then'' k7, fun y hy => Or.inl (List.mem_singleton.1 hy)⟩
  | some g =>
    rw [hb] at hgr
    have k6 : Kept [g] W5 w6 := (Kept.refl _ _).grown hgr (fun k e => Or.inl (by cases e; simp))
    refine ⟨[g, bx], ((k5.more (by simp)).trans k6 (fun y hy => Or.inl (by simp at hy; simp [hy]))).trans k7 (fun y hy => Or.inl (by simp at hy; simp [hy])), fun y hy => ?_⟩
    rcases List.mem_cons.1 hy with rfl | hy
    · exact Or.inr rfl
    · exact Or.inl (List.mem_singleton.1 hy)
theorem bytes_ne {W : World} {k g : Nat} {c c' : Array Value} {t t' : TypeId} {fr fr' : Nat × Nat} (hk : W.heap[k]? = some (.cells c t fr)) (hg : W.heap[g]? = some (.cells c' t' fr')) (ht : t ≠ t') : k ≠ g := fun e => by
  rw [e, hg] at hk
  injection hk with hk
  injection hk with _ hk _
  exact ht hk.symm
/-- What a range's rounds keep: the store, the list that grows, 'most'. -/
structure WkI [TabC] (wG : World) (gb mb s b : Nat) (m : Int) (n : Nat) (D : DataW Unit) (ao : Option Addr) (cap : Nat) (L : List (List Int)) (W : World) : Prop where
  fl : FlT W s b n D
  ib : IdBox W gb gb ao cap L
  most : W.heap[mb]? = some (.cells #[.int .i64 m] 3 (0, 0))
  kept : Kept [b] wG W
section
variable {wG W W' : World} {gb mb s b n : Nat} {m : Int} {D : DataW Unit} {ao : Option Addr} {cap : Nat} {L : List (List Int)}
theorem WkI.on [TabC] (h : WkI wG gb mb s b m n D ao cap L W) (k : Kept [] W W') : WkI wG gb mb s b m n D ao cap L W' := ⟨h.fl.on k, h.ib.on k, k.heap h.most (by simp), h.kept.trans k (by simp)⟩
theorem WkI.turns [TabC] {B : Nat} {row : Option Nat} (h : WkI wG gb mb s b m n D ao cap L W) (ht : TurnsNone B W W' row) (hb : b < B) (hB : wG.heap.size ≤ B) : WkI wG gb mb s b m n D ao cap L W' := ⟨h.fl.turns ht hb, h.ib.turns ht, ht.cells h.most, ht.keptS h.kept hB⟩
theorem WkI.mapped [TabC] (h : WkI wG gb mb s b m n D ao cap L W) (k : Kept [b] W W') {n' : Nat} {D' : DataW Unit} (hf : FlT W' s b n' D') : WkI wG gb mb s b m n' D' ao cap L W' := ⟨hf, h.ib.offMap h.fl k, k.heap h.most (by simpa using h.fl.cells_ne h.most), h.kept.then k⟩
theorem WkI.wrote [TabC] (h : WkI wG gb mb s b m n D ao cap L W) {ge : Nat} (k : Kept [ge] W W') (ho : Off D ge) {c : Array Value} {fr : Nat × Nat} (hge : W.heap[ge]? = some (.cells c 5 fr)) (hG : wG.heap.size ≤ ge) : WkI wG gb mb s b m n D ao cap L W' := by
  have hm : mb ≠ ge := bytes_ne h.most hge (by decide)
  have hx : gb ≠ ge := bytes_ne h.ib.box hge (by decide)
  have hs : s ≠ ge := bytes_ne h.fl.st.blk hge (by decide)
  refine ⟨h.fl.write k hs (h.fl.cells_ne hge).symm ho, ⟨k.heap h.ib.box (by simpa using hx), ownsK_on h.ib.own k (fun q hq => ?_)⟩, k.heap h.most (by simpa using hm), h.kept.trans k (fun x hx => Or.inr (by rw [List.mem_singleton.1 hx]; exact hG))⟩
  obtain ⟨_, _, c', hc⟩ := h.ib.blk hq
  have : q ≠ ge := bytes_ne hc hge (by decide)
  simpa using this
/-- The list grows by one. -/
theorem WkI.push [TabC] (h : WkI wG gb mb s b m n D ao cap L W) (hgb : wG.heap.size ≤ gb) {W5 w6 : World} {x : List Int} {v6 : Value} (k5 : Kept [] W W5)
    (hown : w6.ownsRow gb 36 32 v6 (L.length + 1) ((L.map fun id => id.map (Value.int .u8)).flatten ++ x.map (Value.int .u8))) (hgr : W5.grownBy w6 (Value.slice ao L.length cap).ownBlock) :
    ∃ g6 cap6, v6 = .slice (some ⟨g6, 0, none⟩) (L.length + 1) cap6 ∧ w6.cell? ⟨gb, 0, none⟩ = some (.slice ao L.length cap) ∧ w6.frozen? ⟨gb, 0, none⟩ = false ∧
      WkI wG gb mb s b m n D (some ⟨g6, 0, none⟩) cap6 (L ++ [x]) (w6.setCell ⟨gb, 0, none⟩ v6) ∧
      (∀ k o, W.heap[k]? = some o → k ≠ gb → (Value.slice ao L.length cap).ownBlock ≠ some k → (w6.setCell ⟨gb, 0, none⟩ v6).heap[k]? = some o) ∧
      (∀ (G : Nat → Prop) (B : Nat), (∀ y, G y → y < wG.heap.size) → Mv G B W (w6.setCell ⟨gb, 0, none⟩ v6)) := by
  obtain ⟨g6, cap6, rfl, hc6, hf6, hib6, _, _, _⟩ := h.ib.push k5 hown hgr
  obtain ⟨S, kS, hS⟩ := h.ib.pushS (v6 := .slice (some ⟨g6, 0, none⟩) (L.length + 1) cap6) k5 hgr
  have ty : ∀ y, y ∈ S → gb ≤ y ∧ ((∃ c fr, W.heap[y]? = some (.cells c 36 fr)) ∨ ∃ c fr, W.heap[y]? = some (.cells c 32 fr)) := fun y hy => by
    rcases hS y hy with rfl | e
    · exact ⟨Nat.le_refl _, Or.inr ⟨_, _, h.ib.box⟩⟩
    · obtain ⟨h1, _, c, hc⟩ := h.ib.blk e
      exact ⟨h1, Or.inl ⟨c, _, hc⟩⟩
  refine ⟨g6, cap6, rfl, hc6, hf6, ⟨h.fl.idsOnly kS (fun y hy => (ty y hy).2), hib6, kS.heap h.most (fun hm => ?_), h.kept.trans kS (fun y hy => Or.inr (Nat.le_trans hgb (ty y hy).1))⟩, fun k o hk h1 h2 => kS.heap hk (fun hm => ?_), fun G B hG => Mv.cells kS (fun y hy => ⟨?_, fun hy2 => ?_⟩) (fun y hy => Nat.lt_of_lt_of_le (hG y hy) h.kept.size)⟩
  · rcases (ty mb hm).2 with ⟨c, fr, e⟩ | ⟨c, fr, e⟩
    · exact bytes_ne h.most e (by decide) rfl
    · exact bytes_ne h.most e (by decide) rfl
  · rcases hS k hm with e | e
    · exact h1 e
    · exact h2 e
  · rcases (ty y hy).2 with ⟨c, fr, e⟩ | ⟨c, fr, e⟩
    · exact ⟨c, _, fr, e, by decide⟩
    · exact ⟨c, _, fr, e, by decide⟩
  · have q1 := hG y hy2
    have q2 := (ty y hy).1
    omega
theorem WkI.setMost [TabC] (h : WkI wG gb mb s b m n D ao cap L W) (hmb : wG.heap.size ≤ mb) (m' : Int) : WkI wG gb mb s b m' n D ao cap L (W.setCell ⟨mb, 0, none⟩ (.int .i64 m')) := by
  have k : Kept [mb] W (W.setCell ⟨mb, 0, none⟩ (.int .i64 m')) := (Kept.refl [mb] _).setCell (p := ⟨mb, 0, none⟩) (Or.inl (by simp)) _
  have hx : gb ≠ mb := bytes_ne h.ib.box h.most (by decide)
  have hs : s ≠ mb := bytes_ne h.fl.st.blk h.most (by decide)
  refine ⟨h.fl.write k hs (h.fl.cells_ne h.most).symm (fun kl g q c hk he => ?_), ⟨k.heap h.ib.box (by simpa using hx), ownsK_on h.ib.own k (fun q hq => ?_)⟩, setCell_box h.most _, h.kept.trans k (fun x hx => Or.inr (by rw [List.mem_singleton.1 hx]; exact hmb))⟩
  · obtain ⟨q', fr, e⟩ := h.fl.ty kl g q c hk he
    exact bytes_ne e h.most (by decide)
  · obtain ⟨_, _, c', hc⟩ := h.ib.blk hq
    have : q ≠ mb := bytes_ne hc h.most (by decide)
    simpa using this
end
/-- What a round is handed, and what it keeps. -/
structure WkX [TabC] (wG wF : World) (gb mb s b : Nat) (m : Int) (n : Nat) (D : DataW Unit) (ao : Option Addr) (cap : Nat) (L : List (List Int)) (x : RowE) (Bx ge : Nat) (ys : List Int) (W : World) : Prop where
  i : WkI wG gb mb s b m n D ao cap L W
  idb : W.heap[Bx]? = some (.cells (idC x.xs) 36 (0, 0))
  ne1 : Bx ≠ gb
  ne2 : (Value.slice ao L.length cap).ownBlock ≠ some Bx
  p : x.p = some ⟨ge, 0, none⟩
  hi : wF.heap.size ≤ ge
  own : OwnB W 0 (.slice x.p x.l x.c) ys
  len : ys.length = x.l
  off : Off D ge
  dig : x.xs = digL ys ∧ Octs ys ∧ ys.length ≤ 65536 ∧ ys ≠ []
  sz : wF.heap.size ≤ W.heap.size
theorem WkX.turns [TabC] {wG wF W W' : World} {gb mb s b n Bx ge cap B : Nat} {m : Int} {D : DataW Unit} {ao : Option Addr} {L : List (List Int)} {x : RowE} {ys : List Int} {row : Option Nat} (h : WkX wG wF gb mb s b m n D ao cap L x Bx ge ys W) (ht : TurnsNone B W W' row) (hb : b < B) (hB : wG.heap.size ≤ B) : WkX wG wF gb mb s b m n D ao cap L x Bx ge ys W' :=
  ⟨h.i.turns ht hb hB, ht.cells h.idb, h.ne1, h.ne2, h.p, h.hi, ht.owns h.own, h.len, h.off, h.dig, Nat.le_trans h.sz ht.1.size⟩
theorem WkX.on [TabC] {wG wF W W' : World} {gb mb s b n Bx ge cap : Nat} {m : Int} {D : DataW Unit} {ao : Option Addr} {L : List (List Int)} {x : RowE} {ys : List Int} (h : WkX wG wF gb mb s b m n D ao cap L x Bx ge ys W) (k : Kept [] W W') : WkX wG wF gb mb s b m n D ao cap L x Bx ge ys W' :=
  ⟨h.i.on k, k.heap h.idb (by simp), h.ne1, h.ne2, h.p, h.hi, ownsK_on h.own k (fun _ _ => by simp), h.len, h.off, h.dig, Nat.le_trans h.sz k.size⟩
theorem OwnB.blk {W : World} {B g l c : Nat} {ys : List Int} (h : OwnB W B (.slice (some ⟨g, 0, none⟩) l c) ys) (hl : ys.length = l) : ∃ cur, W.heap[g]? = some (.cells cur 5 (0, 0)) ∧ l ≤ cur.size := by
  obtain ⟨_, ⟨hv, _⟩ | ⟨g', cap, cur, hv, _, hc, h1, _, h3, _⟩⟩ := h
  · cases hv
  · injection hv with hv _ _
    injection hv with hv
    injection hv with hv _ _
    subst hv
    exact ⟨cur, hc, by omega⟩
/-- How many more there may be in the first round. -/
def adW (r q : Nat) : Nat := if r = 0 then q else 0
theorem TellsSome.whole {w : World} {s b n : Nat} {D : DataW Unit} (hst : St w s b n D) {q : List RowE} (h : TellsSome D q) {ids : List (List Int)} (hof : IdsOf D ids) : q.map (·.xs) = ids.take q.length ∧ q.length ≤ ids.length := by
  obtain ⟨L, k, hL, hs, he⟩ := h
  have e1 : L.map (·.xs) = ids := TellsAll.eq hst ⟨L, hL, hs, rfl⟩ hof
  rw [List.map_take, e1] at he
  have hl : q.length = (ids.take k).length := by rw [← he]; simp
  rw [List.length_take] at hl
  refine ⟨?_, by omega⟩
  rw [he]
  rcases Nat.le_total k ids.length with h1 | h1
  · rw [show q.length = k by omega]
  · rw [List.take_of_length_le h1, List.take_of_length_le (by omega)]
/-- How many there may be when a round begins. -/
def bndW (r : Nat) : Nat := if r = 0 then 80 else if r = 1 then 160 else 162
/-- What stands when a round begins. -/
structure WkH [TabC] (w2 : World) (s b r : Nat) (ids : List (List Int)) (vo : Option Addr) (vc br : Nat) (ms : List Nat) (W : World) : Prop where
  fl : ∃ n D, FlT W s b n D ∧ n ≤ bndW r ∧ IdsOf D ids
  at' : IdsAt W (.slice vo ids.length vc) ids
  kept : Kept [b] w2 W
  box : W.heap[br]? = some (.cells #[.int .i64 r] 3 (0, 0))
  marks : ∀ m, m ∈ ms → w2.heap.size ≤ m ∧ W.heap[m]? = some (.deferred (some []))
  apart : ms.Nodup
end Go.Proofs.YtddhhjgegkkjbaaGreatDoor
