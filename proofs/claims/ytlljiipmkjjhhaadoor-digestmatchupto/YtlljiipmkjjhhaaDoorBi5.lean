/-
  THE BOOK of ids, with what bounds it; WALK: (*satchellaw1.Book).growIds.
-/
import Derived.Test.YtlljiipmkjjhhaaDoorBi4
import Derived.Test.YtlljiipmkjjhhaaDoorAppH
namespace Go.Proofs.YtlljiipmkjjhhaaDoor
open Go.RowKit

/-- The book, with what bounds it. -/
structure BkQ (W : World) (B bb : Nat) (es : List Ent) (a turn : Nat) (done : Int) (S : List Nat) : Prop where
  bk : BookAtI W B bb es a turn done S
  le : a ≤ es.length
  len : es.length + 96 * (es.length - a) ≤ 97 * turn
  pend : ∀ (i : Nat) (x : Ent), es[i]? = some x → a ≤ i → x.n ≤ 10000000
theorem BkQ.on {W W' : World} {B bb : Nat} {es : List Ent} {a turn : Nat} {done : Int} {S T : List Nat} (h : BkQ W B bb es a turn done S) (k : Kept T W W') (hd : ∀ x, x ∈ S → x ∉ T) : BkQ W' B bb es a turn done S := ⟨h.bk.on k hd, h.le, h.len, h.pend⟩
/-- What the book takes in: its blocks behind it. -/
structure TookI (W W' : World) (B bb : Nat) (turn : Nat) (S : List Nat) (v : Value) : Prop where
  ex : ∃ es a done S', BkQ W' B bb es a (turn + 1) done S' ∧ Kept (S ++ v.ownBlock.toList) W W' ∧ (∀ x, x ∈ S' → x ∈ S ∨ v.ownBlock = some x ∨ W.heap.size ≤ x)
theorem IDs_bk {W : World} {B bb : Nat} {es : List Ent} {a turn : Nat} {done : Int} {S : List Nat} (hbk : BkQ W B bb es a turn done S) {v : Value} {ids : List (List Int)} (hv : ListI W B v ids) (hg : ∀ g, v.ownBlock = some g → g ∉ S) (ht1 : turn ≤ 5000) (hy : ids.length ≤ 1000000) (hB : B ≤ W.heap.size) :
    Calls Tryd.prog 15 #[.pointer (some ⟨bb, 0, none⟩), v] W fun e w' => e = .returned (.tuple #[]) ∧ TookI W w' B bb turn S v := by
  have h1 := hbk.len
  have h2 := hbk.le
  refine (BIDs_any hbk.bk hv hg (by omega) (by omega) (by omega) hy hB).mono ?_
  rintro e w1 ⟨rfl, es', S', h, he, k, hf⟩
  refine ⟨rfl, es', a, done, S', ⟨h, ?_, ?_, ?_⟩, k, hf⟩
  · rcases he with rfl | ⟨x, rfl, hx⟩
    · exact h2
    · rw [List.length_append]; omega
  · rcases he with rfl | ⟨x, rfl, hx⟩
    · omega
    · rw [List.length_append]; simp only [List.length_cons, List.length_nil]; omega
  · rcases he with rfl | ⟨x, rfl, hx⟩
    · exact hbk.pend
    · intro i y hy ha
      by_cases hi : i < es.length
      · rw [List.getElem?_append_left hi] at hy
        exact hbk.pend i y hy ha
      · rw [List.getElem?_append_right (by omega)] at hy
        have : y ∈ [x] := List.mem_of_getElem? hy
        rw [List.mem_singleton.1 this]
        exact hx
theorem owns_shape1 {w : World} {B : Nat} {e : TypeId} {n : Nat} {v : Value} {xs : List Value} (h : w.ownsRow B e 1 v n xs) : ∃ ao cap, v = .slice ao n cap := by
  rcases h.2 with ⟨hv, h0⟩ | ⟨g, cap, cur, hv, _⟩
  · exact ⟨none, 0, by rw [hv, h0]⟩
  · exact ⟨_, cap, hv⟩
/-- While the book's lists grow. -/
structure GrI (W wr : World) (B bb : Nat) (vb vo : Value) (D : Nat → Option MB) (SD : List Nat) (es : List Ent) (a turn done used : Int) (S : List Nat) : Prop where
  bk : BkI wr B bb vb vo D SD (es.map Ent.v) (es.map fun x => Value.int .i64 x.m) a turn done used
  ent : ∀ x, x ∈ es → EntIn D x ∧ 0 ≤ x.m ∧ x.m ≤ turn
  kept : Kept S W wr
  foot : ∀ x, x ∈ footB bb vb vo SD → x ∈ S ∨ W.heap.size ≤ x
theorem GrI.on {W wr w' : World} {B bb : Nat} {vb vo : Value} {D : Nat → Option MB} {SD : List Nat} {es : List Ent} {a turn done used : Int} {S : List Nat} (G : GrI W wr B bb vb vo D SD es a turn done used S) (k : Kept [] wr w') : GrI W w' B bb vb vo D SD es a turn done used S :=
  ⟨G.bk.on k (fun _ _ => by simp), G.ent, G.kept.then (k.more (by simp)), G.foot⟩
theorem GrI.form {W wr : World} {B bb : Nat} {vb vo : Value} {D : Nat → Option MB} {SD : List Nat} {es : List Ent} {a turn done used : Int} {S : List Nat} (G : GrI W wr B bb vb vo D SD es a turn done used S) : (∃ ao cap, vb = .slice ao es.length cap) ∧ ∃ ao cap, vo = .slice ao es.length cap := by
  obtain ⟨a1, c1, h1⟩ := owns_shape1 G.bk.own
  obtain ⟨a2, c2, h2⟩ := owns_shape1 G.bk.owo
  rw [List.length_map] at h1 h2
  exact ⟨⟨a1, c1, h1⟩, a2, c2, h2⟩
theorem GrI.at {W wr : World} {B bb : Nat} {ab ao : Option Addr} {cb co : Nat} {D : Nat → Option MB} {SD : List Nat} {es : List Ent} {a turn done used : Int} {S : List Nat} (G : GrI W wr B bb (.slice ab es.length cb) (.slice ao es.length co) D SD es a turn done used S) {k : Nat} {x : Ent} (hx : es[k]? = some x) :
    ∃ gb go, ab = some ⟨gb, 0, none⟩ ∧ ao = some ⟨go, 0, none⟩ ∧ wr.cell? ⟨gb, k, none⟩ = some x.v ∧ wr.cell? ⟨go, k, none⟩ = some (.int .i64 x.m) ∧ es.length ≤ cb ∧ es.length ≤ co := by
  have hk : k < es.length := (List.getElem?_eq_some_iff.1 hx).1
  have h1 := G.bk.own
  have h2 := G.bk.owo
  rw [List.length_map] at h1 h2
  rcases h1.2 with ⟨_, h0⟩ | ⟨g1, cap1, cur1, hv1, _, _, hn1, _⟩
  · omega
  rcases h2.2 with ⟨_, h0⟩ | ⟨g2, cap2, cur2, hv2, _, _, hn2, _⟩
  · omega
  injection hv1 with e1 _ e2
  injection hv2 with e3 _ e4
  subst e1 e2 e3 e4
  have c1 := World.ownsRow.cellAt h1 k (by omega)
  have c2 := World.ownsRow.cellAt h2 k (by omega)
  rw [List.getElem?_map, hx] at c1 c2
  exact ⟨g1, g2, rfl, rfl, c1, c2, hn1, hn2⟩
/-- One byte more at the end of a list. -/
theorem GrI.app {W wr w' : World} {B bb : Nat} {vb vo : Value} {D D' : Nat → Option MB} {SD SD' : List Nat} {es : List Ent} {a turn done used : Int} {S : List Nat} {x : Ent} {v' : Value} {o : Obj} (G : GrI W wr B bb vb vo D SD es a turn done used S) (hA : AppdI (wr.alloc o) w' B D SD x v' D' SD') : GrI W w' B bb vb vo D' SD' es a turn done used S := by
  have k0 : Kept [] wr (wr.alloc o) := (Kept.refl _ _).alloc _
  have P := G.bk.on k0 (fun _ _ => by simp)
  have hl := G.bk.lt
  have hn : ∀ y, y ∈ SD' → y ∈ SD ∨ wr.heap.size ≤ y := fun y hy => by
    rcases hA.sub y hy with h | h
    · exact Or.inl h
    · rw [World.size_alloc] at h; exact Or.inr (by omega)
  refine ⟨⟨hA.kept.heap P.box G.bk.n1, owns_on P.own hA.kept (fun g hg => G.bk.n2 g hg), owns_on P.owo hA.kept (fun g hg => G.bk.n3 g hg), hA.blks, G.bk.low, fun h => ?_, fun g hg h => ?_, fun g hg h => ?_⟩, fun y hy => ⟨hA.old y (G.ent y hy).1, (G.ent y hy).2⟩, ?_, fun y hy => ?_⟩
  · rcases hn _ h with h | h
    · exact G.bk.n1 h
    · have := (hl bb (by simp [footB])).2; omega
  · rcases hn _ h with h | h
    · exact G.bk.n2 g hg h
    · have := (hl g (by simp [footB, hg])).2; omega
  · rcases hn _ h with h | h
    · exact G.bk.n3 g hg h
    · have := (hl g (by simp [footB, hg])).2; omega
  · have k1 : Kept SD wr w' := (k0.more (by simp)).then hA.kept
    exact G.kept.trans k1 (fun y hy => G.foot y (by simp [footB, hy]))
  · have hs := G.kept.size
    simp only [footB, List.mem_cons, List.mem_append] at hy
    rcases hy with h | h | h
    · exact G.foot y (by simp [footB, h])
    · exact G.foot y (by simp only [footB, List.mem_cons, List.mem_append]; exact Or.inr (Or.inl h))
    · rcases hn y h with h | h
      · exact G.foot y (by simp [footB, h])
      · exact Or.inr (by omega)
theorem GrI.push {W wr w5 w6 : World} {B bb : Nat} {vb vo v5 v6 : Value} {D : Nat → Option MB} {SD : List Nat} {es : List Ent} {a turn done used : Int} {S : List Nat} {x : Ent} (G : GrI W wr B bb vb vo D SD es a turn done used S) (hx : EntIn D x ∧ 0 ≤ x.m ∧ x.m ≤ turn)
    (P : BkI w6 B bb v5 v6 D SD (es.map Ent.v ++ [x.v]) ((es.map fun x => Value.int .i64 x.m) ++ [.int .i64 x.m]) a turn done used) (k5 : Kept (footB bb vb vo SD) wr w5) (k6 : Kept (footB bb v5 vo SD) w5 w6)
    (f5 : ∀ y, y ∈ footB bb v5 vo SD → y ∈ footB bb vb vo SD ∨ wr.heap.size ≤ y) (f6 : ∀ y, y ∈ footB bb v5 v6 SD → y ∈ footB bb v5 vo SD ∨ w5.heap.size ≤ y) : GrI W w6 B bb v5 v6 D SD (es ++ [x]) a turn done used S := by
  have hs := G.kept.size
  have h5 := k5.size
  have hf5 : ∀ y, y ∈ footB bb v5 vo SD → y ∈ S ∨ W.heap.size ≤ y := fun y hy => by
    rcases f5 y hy with h | h
    · exact G.foot y h
    · exact Or.inr (by omega)
  refine ⟨by simpa using P, fun y hy => ?_, (G.kept.trans k5 G.foot).trans k6 hf5, fun y hy => ?_⟩
  · rcases List.mem_append.1 hy with h | h
    · exact G.ent y h
    · rw [List.mem_singleton.1 h]; exact hx
  · rcases f6 y hy with h | h
    · exact hf5 y h
    · exact Or.inr (by omega)

structure GrewI (W W' : World) (B bb : Nat) (turn : Nat) (done : Int) (S : List Nat) : Prop where
  ex : ∃ es a S', BkQ W' B bb es a turn done S' ∧ Kept S W W' ∧ (∀ x, x ∈ S' → x ∈ S ∨ W.heap.size ≤ x)

set_option maxRecDepth 100000 in
set_option maxHeartbeats 8000000 in
theorem growIds_any {W : World} {B bb : Nat} {es0 : List Ent} {a turn : Nat} {done : Int} {S : List Nat} (hbk : BkQ W B bb es0 a turn done S) (ht1 : turn ≤ 5000) (hB : B ≤ W.heap.size) :
    Calls Tryd.prog 46 #[.pointer (some ⟨bb, 0, none⟩)] W fun e w' => e = .returned (.tuple #[]) ∧ GrewI W w' B bb turn done S := by
  obtain ⟨vb, vo, D, SD, used, P, hes, hu0, hu1, hS⟩ := hbk.bk.ex
  have G0 : GrI W W B bb vb vo D SD es0 a turn done used S := ⟨P, hes, Kept.refl _ _, fun x hx => Or.inl (by rw [hS]; exact hx)⟩
  have hlen := hbk.len
  have hle := hbk.le
  have HPd : Hid (∀ (i : Nat) (x : Ent), es0[i]? = some x → a ≤ i → x.n ≤ 10000000) := hbk.pend
  obtain ⟨q0, q1, q2, q33, q34, q35, qf⟩ := P.cells
  obtain ⟨⟨ab, cb, rfl⟩, ⟨ao, co, rfl⟩⟩ := G0.form
  have HG0 : Hid (GrI W W B bb (.slice ab es0.length cb) (.slice ao es0.length co) D SD es0 a turn done used S) := G0
  have HUse : Hid (0 ≤ used ∧ used ≤ 16777216) := ⟨hu0, hu1⟩
  clear P hes hS hbk G0 hu0 hu1
  generalize hn0 : es0.length = n at *
  have HN : Hid (es0.length = n) := hn0
  clear hn0
  go_enter Tryd.func46, Tryd.ntmps46
  go_wp2
  clear q0 q1 q2 q33 q34 q35 qf
  go_loopw [3, 4, 5, 6] (fun s3 _ _ _ wr => ∃ (k : Nat) (vb vo : Value) (D : Nat → Option MB) (SD : List Nat) (es : List Ent), s3 = .int .i64 k ∧ a ≤ k ∧ k ≤ n ∧ Hid (GrI W wr B bb vb vo D SD es a turn done used S ∧ es.length ≤ n + 96 * (k - a) ∧ n ≤ es.length ∧ (∀ (i : Nat) (x : Ent), es[i]? = some x → k ≤ i → i < n → x.n ≤ 10000000))) (fun s3 _ _ _ _ => n - (intOf s3).toNat)
  case atStart => exact ⟨a, _, _, D, SD, es0, rfl, Nat.le_refl _, hle, HG0.out, by rw [HN.out]; omega, by rw [HN.out]; exact Nat.le_refl _, fun i x hx h _ => HPd.out i x hx h⟩
  case round =>
    clear HG0
    obtain ⟨k, vb, vo, D, SD, es, rfl, hka, hkn, HS⟩ := hrel
    obtain ⟨hg, hl1, hl2, hpd⟩ := HS.out
    obtain ⟨⟨ab, cb, rfl⟩, ⟨ao, co, rfl⟩⟩ := hg.form
    obtain ⟨q0, q1, q2, q33, q34, q35, qf⟩ := hg.bk.cells
    have HG : Hid (GrI W wr B bb (.slice ab es.length cb) (.slice ao es.length co) D SD es a turn done used S) := hg
    have HPD : Hid (∀ (i : Nat) (x : Ent), es[i]? = some x → k ≤ i → i < n → x.n ≤ 10000000) := hpd
    clear HS hpd
    by_cases hlt : k < n
    · have t1 : decide ((k : Int) < (n : Int)) = true := by simp; omega
      obtain ⟨x, hx⟩ : ∃ x, es[k]? = some x := ⟨es[k], List.getElem?_eq_getElem (by omega)⟩
      obtain ⟨gb, go, rfl, rfl, c1, c2, cc1, cc2⟩ := hg.at hx
      have hxe := hg.ent x (List.mem_of_getElem? hx)
      obtain ⟨av, cv, hxv⟩ : ∃ av cv, x.v = .slice av x.n cv := by
        rcases hxe.1 with ⟨h1, h2⟩ | ⟨g, cap, ext, h1, _⟩
        · exact ⟨none, 0, by rw [h1, h2]⟩
        · exact ⟨_, _, h1⟩
      rw [hxv] at c1
      have HEnt : Hid (EntIn D ⟨.slice av x.n cv, x.m, x.n⟩) := by have h := hxe.1; obtain ⟨xv, xm, xn⟩ := x; dsimp only at hxv h ⊢; rw [← hxv]; exact h
      have hm0 := hxe.2.1
      have hm1 := hxe.2.2
      have hxn := HPD.out k x hx (Nat.le_refl _) hlt
      have HPD2 : Hid (∀ (i : Nat) (x : Ent), es[i]? = some x → k + 1 ≤ i → i < n → x.n ≤ 10000000) := fun i y hy h1 h2 => HPD.out i y hy (by omega) h2
      have i0 : (0 : Int) ≤ k := by omega
      have i1 : (k : Int) < es.length := by omega
      clear hxe hxv hx hg HPD
      generalize x.m = m at *
      generalize x.n = xn at *
      obtain ⟨X, hX⟩ : ∃ X, X = (idM m).map (Value.int .u8) := ⟨_, rfl⟩
      have HX : Hid (X = (idM m).map (Value.int .u8)) := hX
      have hXl : X.length = 32 := by rw [hX, List.length_map]; exact (idM_good m).1
      have HIM : Hid (∀ W, Calls Tryd.prog 27 #[.int .i64 m] W fun e w' => e = .returned (.agg X.toArray) ∧ Kept [] W w') := fun W => by
        have h := idsMark_any m hm0 (by omega) W
        rw [show idC (idM m) = X.toArray by rw [hX]; rfl] at h
        exact h
      clear hX
      go_wp2
      clear q0 q1 q2 q33 q34 q35 qf c1 c2
      have HKL : Hid (k < n) := hlt
      go_loopw [4, 6] (fun s4 s6 wq => ∃ (i : Nat) (av : Option Addr) (ng cv : Nat) (vb vo : Value) (D : Nat → Option MB) (SD : List Nat) (es1 : List Ent), s4 = .slice av ng cv ∧ s6 = .int .i64 i ∧ 1 ≤ i ∧ i ≤ 33 ∧ Hid (GrI W wq B bb vb vo D SD es1 a turn done used S ∧ EntIn D ⟨.slice av ng cv, m, ng⟩ ∧ ng ≤ 10000000 + i ∧ es1.length ≤ es.length + (i - 1) ∧ es.length ≤ es1.length ∧ (∀ (j : Nat) (x : Ent), es1[j]? = some x → k + 1 ≤ j → j < n → x.n ≤ 10000000))) (fun _ s6 _ => 33 - (intOf s6).toNat)
      case atStart => exact ⟨1, av, xn, cv, _, _, D, SD, es, rfl, rfl, Nat.le_refl _, by omega, HG.out, HEnt.out, by omega, by omega, Nat.le_refl _, HPD2.out⟩
      case round =>
        clear HG HEnt HPD2
        obtain ⟨i, av, ng, cv, vb, vo, D, SD, es1, rfl, rfl, hi1, hi2, HS⟩ := hrel
        obtain ⟨hg, hen, hng, hl3, hl4, hpd⟩ := HS.out
        have HG : Hid (GrI W wr B bb vb vo D SD es1 a turn done used S) := hg
        have HPD3 : Hid (∀ (j : Nat) (x : Ent), es1[j]? = some x → k + 1 ≤ j → j < n → x.n ≤ 10000000) := hpd
        by_cases hi : i ≤ 32
        · have t2 : decide ((i : Int) ≤ 32) = true := by simp; omega
          have HEn : Hid (EntIn D ⟨.slice av ng cv, m, ng⟩) := hen
          have hsz := hg.kept.size
          have hng1 : ng + 1 ≤ 1000000000000 := by omega
          have hatk := HIM.out wr
          have hone5 : (Value.int .i64 m).oneCell' = true := rfl
          have hz4 : (Value.slice none 0 0).cells.size = 1 := rfl
          have hz5 : (Value.int .i64 0).cells.size = 1 := rfl
          have hL1 : (es1.map Ent.v).length ≤ 1000000 := by rw [List.length_map]; omega
          have hL2 : (es1.map fun x => Value.int .i64 x.m).length ≤ 1000000 := by rw [List.length_map]; omega
          clear HS hg hen hpd
          by_cases h4 : i < 4
          · have d4 : decide ((i : Int) < 4) = true := by simp; omega
            go_wp2_with fail
            go_at_call 27
            refine hatk.mono ?_
            rintro e w1 ⟨rfl, kw1⟩
            have hg1 := HG.out.on kw1
            have HG1 : Hid (GrI W w1 B bb vb vo D SD es1 a turn done used S) := hg1
            have k0 : Kept [] w1 (w1.alloc (.cells X.toArray 24)) := (Kept.refl _ _).alloc _
            have HBl : Hid (BlksI (w1.alloc (.cells X.toArray 24)) B D SD) := hg1.bk.blk.kept k0 (fun _ _ => by simp)
            have hq0 : (w1.alloc (.cells X.toArray 24)).rangeAt w1.heap.size 0 ((idM m).map (Value.int .u8)) := by rw [← HX.out]; exact row_range (heap_alloc_new w1 _)
            have hbl0 : B ≤ (w1.alloc (.cells X.toArray 24)).heap.size := by rw [World.size_alloc]; have := kw1.size; omega
            clear hatk kw1 hg1 k0
            go_wp2_with (first
            | (refine wpList_build_k (by rfl) Tryd.underlying22 Tryd.idInfo (by decide) (by decide) (.tmp 41) (by rfl) X (by rfl) hXl ?_)
            | (at_builtin; refine wpList_append_markI (by rfl) (.tmp 39) (.tmp 42) (by rfl) (x := ⟨.slice av ng cv, m, ng⟩) HBl.out HEn.out hbl0 (by rfl) (q := w1.heap.size) (by rfl) hq0 hng1 ?_
               intro v2 w2 D2 SD2 hA
               obtain ⟨av2, cv2, rfl⟩ : ∃ av2 cv2, v2 = .slice av2 (ng + 1) cv2 := by
                 rcases hA.ent with ⟨_, h2⟩ | ⟨g, cap, ext, h1, _⟩
                 · exact absurd h2 (by simp)
                 · exact ⟨_, _, h1⟩
               have g2 := HG1.out.app hA
               have HG2 : Hid (GrI W w2 B bb vb vo D2 SD2 es1 a turn done used S) := g2
               have HE2 : Hid (EntIn D2 ⟨.slice av2 (ng + 1) cv2, m, ng + 1⟩) := hA.ent
               obtain ⟨p0, p1, p2, p33, p34, p35, pf⟩ := g2.bk.cells
               have own4 := owns_on (T := []) g2.bk.own ((Kept.refl [] w2).alloc (.cells #[(Value.slice av2 (ng + 1) cv2)] 22)) (by simp)
               have hbl4 : B ≤ (w2.alloc (.cells #[(Value.slice av2 (ng + 1) cv2)] 22)).heap.size := by rw [World.size_alloc]; have := g2.kept.size; omega
               have hcell4 : (w2.alloc (.cells #[(Value.slice av2 (ng + 1) cv2)] 22)).cell? ⟨w2.heap.size, 0, none⟩ = some (Value.slice av2 (ng + 1) cv2) := cell_one_new w2 (Value.slice av2 (ng + 1) cv2) 22 0 _ rfl
               have hone4 : ((Value.slice av2 (ng + 1) cv2) : Value).oneCell' = true := rfl
               clear g2 hA)
            | (at_builtin; refine wpList_append_1 (by rfl) (.tmp 55) (.tmp 57) 44 22 (.slice none 0 0) 24 Tryd.underlying44 Tryd.info_idl hz4 (by rfl) (v := vb) (by rfl) own4 (q := w2.heap.size) (u := (Value.slice av2 (ng + 1) cv2)) (by rfl) hcell4 hone4 hL1 (by decide) hbl4 ?_
               intro vb5 w5 h5 k5 at5
               have hl5 : (es1.map Ent.v ++ [(Value.slice av2 (ng + 1) cv2)]).length = es1.length + 1 := by simp
               obtain ⟨g5, c5, rfl⟩ := owns_form1 h5 (by omega)
               rw [hl5] at at5 ⊢
               have h5 : w5.ownsRow B 22 1 (Value.slice (some ⟨g5, 0, none⟩) (es1.length + 1) c5) (es1.map Ent.v ++ [(Value.slice av2 (ng + 1) cv2)]).length (es1.map Ent.v ++ [(Value.slice av2 (ng + 1) cv2)]) := by rw [hl5] at h5 ⊢; exact h5
               obtain ⟨P5, kk5, ft5⟩ := HG2.out.bk.pushB h5 k5 at5
               have HP5 : Hid (BkI (w5.setCell ⟨bb, 6, none⟩ (Value.slice (some ⟨g5, 0, none⟩) (es1.length + 1) c5)) B bb (Value.slice (some ⟨g5, 0, none⟩) (es1.length + 1) c5) vo D2 SD2 (es1.map Ent.v ++ [(Value.slice av2 (ng + 1) cv2)]) (es1.map fun x => Value.int .i64 x.m) a turn done used) := P5
               have HK5 : Hid (Kept (footB bb vb vo SD2) w2 (w5.setCell ⟨bb, 6, none⟩ (Value.slice (some ⟨g5, 0, none⟩) (es1.length + 1) c5))) := kk5
               have HF5 : Hid (∀ x, x ∈ footB bb (Value.slice (some ⟨g5, 0, none⟩) (es1.length + 1) c5) vo SD2 → x ∈ footB bb vb vo SD2 ∨ w2.heap.size ≤ x) := ft5
               obtain ⟨r0, r1, r2, r33, r34, r35, rf⟩ := P5.cells
               have hb5 := k5.heap (((Kept.refl [] w2).alloc _).heap HG2.out.bk.box (by simp)) (fun e => HG2.out.bk.ne1 bb (by simpa using e) rfl)
               obtain ⟨cb0, qb⟩ : ∃ c, w5.cell? ⟨bb, 6, none⟩ = some c := ⟨vb, (own_facts hb5).1 6⟩
               have qg := (own_facts hb5).2.1 6
               have own5 := owns_on (T := []) P5.owo ((Kept.refl [] (w5.setCell ⟨bb, 6, none⟩ (Value.slice (some ⟨g5, 0, none⟩) (es1.length + 1) c5))).alloc (.cells #[.int .i64 m] 3)) (by simp)
               have hbl5 : B ≤ ((w5.setCell ⟨bb, 6, none⟩ (Value.slice (some ⟨g5, 0, none⟩) (es1.length + 1) c5)).alloc (.cells #[.int .i64 m] 3)).heap.size := by rw [World.size_alloc]; have := kk5.size; have := HG2.out.kept.size; omega
               have hcell5 : ((w5.setCell ⟨bb, 6, none⟩ (Value.slice (some ⟨g5, 0, none⟩) (es1.length + 1) c5)).alloc (.cells #[.int .i64 m] 3)).cell? ⟨w5.heap.size, 0, none⟩ = some (.int .i64 m) := by
                 have h := cell_one_new (w5.setCell ⟨bb, 6, none⟩ (Value.slice (some ⟨g5, 0, none⟩) (es1.length + 1) c5)) (.int .i64 m) 3 0 _ rfl
                 rw [show (w5.setCell ⟨bb, 6, none⟩ (Value.slice (some ⟨g5, 0, none⟩) (es1.length + 1) c5)).heap.size = w5.heap.size by simp [World.setCell]] at h
                 exact h
               clear P5 kk5 ft5 h5 k5 at5 own4 hl5 hb5)
            | (at_builtin; refine wpList_append_1 (by rfl) (.tmp 65) (.tmp 67) 42 3 (.int .i64 0) 8 Tryd.underlying42 Tryd.info_ints hz5 (by rfl) (v := vo) (by rfl) own5 (q := w5.heap.size) (u := .int .i64 m) (by rfl) hcell5 hone5 hL2 (by decide) hbl5 ?_
               intro vo6 w6 h6 k6 at6
               have hl6 : ((es1.map fun x => Value.int .i64 x.m) ++ [Value.int .i64 m]).length = es1.length + 1 := by simp
               obtain ⟨g6, c6, rfl⟩ := owns_form1 h6 (by omega)
               rw [hl6] at at6 ⊢
               have h6 : w6.ownsRow B 3 1 (Value.slice (some ⟨g6, 0, none⟩) (es1.length + 1) c6) ((es1.map fun x => Value.int .i64 x.m) ++ [Value.int .i64 m]).length ((es1.map fun x => Value.int .i64 x.m) ++ [Value.int .i64 m]) := by rw [hl6] at h6 ⊢; exact h6
               obtain ⟨P6, kk6, ft6⟩ := HP5.out.pushO h6 k6 at6
               have HG6 : Hid (GrI W (w6.setCell ⟨bb, 7, none⟩ (Value.slice (some ⟨g6, 0, none⟩) (es1.length + 1) c6)) B bb (Value.slice (some ⟨g5, 0, none⟩) (es1.length + 1) c5) (Value.slice (some ⟨g6, 0, none⟩) (es1.length + 1) c6) D2 SD2 (es1 ++ [⟨(Value.slice av2 (ng + 1) cv2), m, ng + 1⟩]) a turn done used S) := HG2.out.push ⟨HE2.out, hm0, hm1⟩ P6 HK5.out kk6 HF5.out ft6
               have hb6 := k6.heap (((Kept.refl [] (w5.setCell ⟨bb, 6, none⟩ (Value.slice (some ⟨g5, 0, none⟩) (es1.length + 1) c5))).alloc _).heap HP5.out.box (by simp)) (fun e => HP5.out.ne2 bb (by simpa using e) rfl)
               have qc := (own_facts hb6).1 7
               have qd := (own_facts hb6).2.1 7
               clear P6 kk6 ft6 h6 k6 at6 own5 hb6 hl6))
            go_roundw
            case rel =>
              refine ⟨i + 1, av2, ng + 1, cv2, _, _, D2, SD2, es1 ++ [⟨(Value.slice av2 (ng + 1) cv2), m, ng + 1⟩], rfl, by go_num, by omega, by omega, HG6.out, HE2.out, by omega, by rw [List.length_append]; simp only [List.length_cons, List.length_nil]; omega, by rw [List.length_append]; omega, fun j y hy h1 h2 => ?_⟩
              rw [List.getElem?_append_left (by omega)] at hy
              exact HPD3.out j y hy h1 h2
            case measure => simp [intOf]; omega
          · have d4 : decide ((i : Int) < 4) = false := by simp; omega
            by_cases h16 : (i : Int) % 16 = 0
            · have d16 : ((i : Int) % 16 == 0) = true := by simpa using h16
              clear h16
              go_wp2_with fail
              go_at_call 27
              refine hatk.mono ?_
              rintro e w1 ⟨rfl, kw1⟩
              have hg1 := HG.out.on kw1
              have HG1 : Hid (GrI W w1 B bb vb vo D SD es1 a turn done used S) := hg1
              have k0 : Kept [] w1 (w1.alloc (.cells X.toArray 24)) := (Kept.refl _ _).alloc _
              have HBl : Hid (BlksI (w1.alloc (.cells X.toArray 24)) B D SD) := hg1.bk.blk.kept k0 (fun _ _ => by simp)
              have hq0 : (w1.alloc (.cells X.toArray 24)).rangeAt w1.heap.size 0 ((idM m).map (Value.int .u8)) := by rw [← HX.out]; exact row_range (heap_alloc_new w1 _)
              have hbl0 : B ≤ (w1.alloc (.cells X.toArray 24)).heap.size := by rw [World.size_alloc]; have := kw1.size; omega
              clear hatk kw1 hg1 k0
              go_wp2_with (first
              | (refine wpList_build_k (by rfl) Tryd.underlying22 Tryd.idInfo (by decide) (by decide) (.tmp 41) (by rfl) X (by rfl) hXl ?_)
              | (at_builtin; refine wpList_append_markI (by rfl) (.tmp 39) (.tmp 42) (by rfl) (x := ⟨.slice av ng cv, m, ng⟩) HBl.out HEn.out hbl0 (by rfl) (q := w1.heap.size) (by rfl) hq0 hng1 ?_
                 intro v2 w2 D2 SD2 hA
                 obtain ⟨av2, cv2, rfl⟩ : ∃ av2 cv2, v2 = .slice av2 (ng + 1) cv2 := by
                   rcases hA.ent with ⟨_, h2⟩ | ⟨g, cap, ext, h1, _⟩
                   · exact absurd h2 (by simp)
                   · exact ⟨_, _, h1⟩
                 have g2 := HG1.out.app hA
                 have HG2 : Hid (GrI W w2 B bb vb vo D2 SD2 es1 a turn done used S) := g2
                 have HE2 : Hid (EntIn D2 ⟨.slice av2 (ng + 1) cv2, m, ng + 1⟩) := hA.ent
                 obtain ⟨p0, p1, p2, p33, p34, p35, pf⟩ := g2.bk.cells
                 have own4 := owns_on (T := []) g2.bk.own ((Kept.refl [] w2).alloc (.cells #[(Value.slice av2 (ng + 1) cv2)] 22)) (by simp)
                 have hbl4 : B ≤ (w2.alloc (.cells #[(Value.slice av2 (ng + 1) cv2)] 22)).heap.size := by rw [World.size_alloc]; have := g2.kept.size; omega
                 have hcell4 : (w2.alloc (.cells #[(Value.slice av2 (ng + 1) cv2)] 22)).cell? ⟨w2.heap.size, 0, none⟩ = some (Value.slice av2 (ng + 1) cv2) := cell_one_new w2 (Value.slice av2 (ng + 1) cv2) 22 0 _ rfl
                 have hone4 : ((Value.slice av2 (ng + 1) cv2) : Value).oneCell' = true := rfl
                 clear g2 hA)
              | (at_builtin; refine wpList_append_1 (by rfl) (.tmp 55) (.tmp 57) 44 22 (.slice none 0 0) 24 Tryd.underlying44 Tryd.info_idl hz4 (by rfl) (v := vb) (by rfl) own4 (q := w2.heap.size) (u := (Value.slice av2 (ng + 1) cv2)) (by rfl) hcell4 hone4 hL1 (by decide) hbl4 ?_
                 intro vb5 w5 h5 k5 at5
                 have hl5 : (es1.map Ent.v ++ [(Value.slice av2 (ng + 1) cv2)]).length = es1.length + 1 := by simp
                 obtain ⟨g5, c5, rfl⟩ := owns_form1 h5 (by omega)
                 rw [hl5] at at5 ⊢
                 have h5 : w5.ownsRow B 22 1 (Value.slice (some ⟨g5, 0, none⟩) (es1.length + 1) c5) (es1.map Ent.v ++ [(Value.slice av2 (ng + 1) cv2)]).length (es1.map Ent.v ++ [(Value.slice av2 (ng + 1) cv2)]) := by rw [hl5] at h5 ⊢; exact h5
                 obtain ⟨P5, kk5, ft5⟩ := HG2.out.bk.pushB h5 k5 at5
                 have HP5 : Hid (BkI (w5.setCell ⟨bb, 6, none⟩ (Value.slice (some ⟨g5, 0, none⟩) (es1.length + 1) c5)) B bb (Value.slice (some ⟨g5, 0, none⟩) (es1.length + 1) c5) vo D2 SD2 (es1.map Ent.v ++ [(Value.slice av2 (ng + 1) cv2)]) (es1.map fun x => Value.int .i64 x.m) a turn done used) := P5
                 have HK5 : Hid (Kept (footB bb vb vo SD2) w2 (w5.setCell ⟨bb, 6, none⟩ (Value.slice (some ⟨g5, 0, none⟩) (es1.length + 1) c5))) := kk5
                 have HF5 : Hid (∀ x, x ∈ footB bb (Value.slice (some ⟨g5, 0, none⟩) (es1.length + 1) c5) vo SD2 → x ∈ footB bb vb vo SD2 ∨ w2.heap.size ≤ x) := ft5
                 obtain ⟨r0, r1, r2, r33, r34, r35, rf⟩ := P5.cells
                 have hb5 := k5.heap (((Kept.refl [] w2).alloc _).heap HG2.out.bk.box (by simp)) (fun e => HG2.out.bk.ne1 bb (by simpa using e) rfl)
                 obtain ⟨cb0, qb⟩ : ∃ c, w5.cell? ⟨bb, 6, none⟩ = some c := ⟨vb, (own_facts hb5).1 6⟩
                 have qg := (own_facts hb5).2.1 6
                 have own5 := owns_on (T := []) P5.owo ((Kept.refl [] (w5.setCell ⟨bb, 6, none⟩ (Value.slice (some ⟨g5, 0, none⟩) (es1.length + 1) c5))).alloc (.cells #[.int .i64 m] 3)) (by simp)
                 have hbl5 : B ≤ ((w5.setCell ⟨bb, 6, none⟩ (Value.slice (some ⟨g5, 0, none⟩) (es1.length + 1) c5)).alloc (.cells #[.int .i64 m] 3)).heap.size := by rw [World.size_alloc]; have := kk5.size; have := HG2.out.kept.size; omega
                 have hcell5 : ((w5.setCell ⟨bb, 6, none⟩ (Value.slice (some ⟨g5, 0, none⟩) (es1.length + 1) c5)).alloc (.cells #[.int .i64 m] 3)).cell? ⟨w5.heap.size, 0, none⟩ = some (.int .i64 m) := by
                   have h := cell_one_new (w5.setCell ⟨bb, 6, none⟩ (Value.slice (some ⟨g5, 0, none⟩) (es1.length + 1) c5)) (.int .i64 m) 3 0 _ rfl
                   rw [show (w5.setCell ⟨bb, 6, none⟩ (Value.slice (some ⟨g5, 0, none⟩) (es1.length + 1) c5)).heap.size = w5.heap.size by simp [World.setCell]] at h
                   exact h
                 clear P5 kk5 ft5 h5 k5 at5 own4 hl5 hb5)
              | (at_builtin; refine wpList_append_1 (by rfl) (.tmp 65) (.tmp 67) 42 3 (.int .i64 0) 8 Tryd.underlying42 Tryd.info_ints hz5 (by rfl) (v := vo) (by rfl) own5 (q := w5.heap.size) (u := .int .i64 m) (by rfl) hcell5 hone5 hL2 (by decide) hbl5 ?_
                 intro vo6 w6 h6 k6 at6
                 have hl6 : ((es1.map fun x => Value.int .i64 x.m) ++ [Value.int .i64 m]).length = es1.length + 1 := by simp
                 obtain ⟨g6, c6, rfl⟩ := owns_form1 h6 (by omega)
                 rw [hl6] at at6 ⊢
                 have h6 : w6.ownsRow B 3 1 (Value.slice (some ⟨g6, 0, none⟩) (es1.length + 1) c6) ((es1.map fun x => Value.int .i64 x.m) ++ [Value.int .i64 m]).length ((es1.map fun x => Value.int .i64 x.m) ++ [Value.int .i64 m]) := by rw [hl6] at h6 ⊢; exact h6
                 obtain ⟨P6, kk6, ft6⟩ := HP5.out.pushO h6 k6 at6
                 have HG6 : Hid (GrI W (w6.setCell ⟨bb, 7, none⟩ (Value.slice (some ⟨g6, 0, none⟩) (es1.length + 1) c6)) B bb (Value.slice (some ⟨g5, 0, none⟩) (es1.length + 1) c5) (Value.slice (some ⟨g6, 0, none⟩) (es1.length + 1) c6) D2 SD2 (es1 ++ [⟨(Value.slice av2 (ng + 1) cv2), m, ng + 1⟩]) a turn done used S) := HG2.out.push ⟨HE2.out, hm0, hm1⟩ P6 HK5.out kk6 HF5.out ft6
                 have hb6 := k6.heap (((Kept.refl [] (w5.setCell ⟨bb, 6, none⟩ (Value.slice (some ⟨g5, 0, none⟩) (es1.length + 1) c5))).alloc _).heap HP5.out.box (by simp)) (fun e => HP5.out.ne2 bb (by simpa using e) rfl)
                 have qc := (own_facts hb6).1 7
                 have qd := (own_facts hb6).2.1 7
                 clear P6 kk6 ft6 h6 k6 at6 own5 hb6 hl6))
              go_roundw
              case rel =>
                refine ⟨i + 1, av2, ng + 1, cv2, _, _, D2, SD2, es1 ++ [⟨(Value.slice av2 (ng + 1) cv2), m, ng + 1⟩], rfl, by go_num, by omega, by omega, HG6.out, HE2.out, by omega, by rw [List.length_append]; simp only [List.length_cons, List.length_nil]; omega, by rw [List.length_append]; omega, fun j y hy h1 h2 => ?_⟩
                rw [List.getElem?_append_left (by omega)] at hy
                exact HPD3.out j y hy h1 h2
              case measure => simp [intOf]; omega
            · have d16 : ((i : Int) % 16 == 0) = false := by simpa using h16
              clear h16
              go_wp2_with fail
              go_at_call 27
              refine hatk.mono ?_
              rintro e w1 ⟨rfl, kw1⟩
              have hg1 := HG.out.on kw1
              have HG1 : Hid (GrI W w1 B bb vb vo D SD es1 a turn done used S) := hg1
              have k0 : Kept [] w1 (w1.alloc (.cells X.toArray 24)) := (Kept.refl _ _).alloc _
              have HBl : Hid (BlksI (w1.alloc (.cells X.toArray 24)) B D SD) := hg1.bk.blk.kept k0 (fun _ _ => by simp)
              have hq0 : (w1.alloc (.cells X.toArray 24)).rangeAt w1.heap.size 0 ((idM m).map (Value.int .u8)) := by rw [← HX.out]; exact row_range (heap_alloc_new w1 _)
              have hbl0 : B ≤ (w1.alloc (.cells X.toArray 24)).heap.size := by rw [World.size_alloc]; have := kw1.size; omega
              clear hatk kw1 hg1 k0
              go_wp2_with (first
                 | (refine wpList_build_k (by rfl) Tryd.underlying22 Tryd.idInfo (by decide) (by decide) (.tmp 41) (by rfl) X (by rfl) hXl ?_)
                 | (at_builtin; refine wpList_append_markI (by rfl) (.tmp 39) (.tmp 42) (by rfl) (x := ⟨.slice av ng cv, m, ng⟩) HBl.out HEn.out hbl0 (by rfl) (q := w1.heap.size) (by rfl) hq0 hng1 ?_
                    intro v2 w2 D2 SD2 hA
                    obtain ⟨av2, cv2, rfl⟩ : ∃ av2 cv2, v2 = .slice av2 (ng + 1) cv2 := by
                      rcases hA.ent with ⟨_, h2⟩ | ⟨g, cap, ext, h1, _⟩
                      · exact absurd h2 (by simp)
                      · exact ⟨_, _, h1⟩
                    have HG2 : Hid (GrI W w2 B bb vb vo D2 SD2 es1 a turn done used S) := HG1.out.app hA
                    have HE2 : Hid (EntIn D2 ⟨.slice av2 (ng + 1) cv2, m, ng + 1⟩) := hA.ent
                    clear hA))
              go_roundw
              case rel => exact ⟨i + 1, av2, ng + 1, cv2, _, _, D2, SD2, es1, rfl, by go_num, by omega, by omega, HG2.out, HE2.out, by omega, by omega, by omega, HPD3.out⟩
              case measure => simp [intOf]; omega
        · have t2 : decide ((i : Int) ≤ 32) = false := by simp; omega
          have HG9 : Hid (GrI W wr B bb vb vo D SD es1 a turn done used S) := hg
          clear HS hg hen hpd
          go_wp2
          go_roundw
          case rel => exact ⟨k + 1, vb, vo, D, SD, es1, by go_num, by omega, by omega, HG9.out, by omega, by omega, HPD3.out⟩
          case measure => simp [intOf]; omega
    · have t1 : decide ((k : Int) < (n : Int)) = false := by simp; omega
      have P9 := hg.bk.num 8 (.int .i64 es.length) (a' := (es.length : Int)) (turn' := turn) (done' := done) (used' := used) rfl
      have k9 : Kept [bb] wr (wr.setCell ⟨bb, 8, none⟩ (.int .i64 es.length)) := (Kept.refl [bb] wr).setCell (p := ⟨bb, 8, none⟩) (Or.inl (by simp)) _
      have HF : Hid (GrewI W (wr.setCell ⟨bb, 8, none⟩ (.int .i64 es.length)) B bb turn done S) :=
        ⟨es, es.length, _, ⟨⟨_, _, D, SD, used, P9, hg.ent, HUse.out.1, HUse.out.2, rfl⟩, Nat.le_refl _, by omega, fun i x hx h => by have := (List.getElem?_eq_some_iff.1 hx).1; omega⟩, hg.kept.trans k9 (fun x hx => hg.foot x (by rw [List.mem_singleton.1 hx]; simp [footB])), hg.foot⟩
      clear hg P9 k9
      go_wp2
      go_end0
      exact ⟨rfl, HF.out⟩
end Go.Proofs.YtlljiipmkjjhhaaDoor
