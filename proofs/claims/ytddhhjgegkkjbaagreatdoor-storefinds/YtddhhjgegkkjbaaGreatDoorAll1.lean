/-
  WALK: the function that (*store.Store).All answers, as a range over it sees it.
-/
import Derived.Test.YtddhhjgegkkjbaaGreatDoorRw2
import Derived.Test.YtddhhjgegkkjbaaGreatDoorSg2
namespace Go.Proofs.YtddhhjgegkkjbaaGreatDoor
open Go.RowKit Go.Shelf Go.WideMaps
attribute [local go_sem] Oper.semAt_some

/-- What is handed to a round. -/
def encsR (x : RowE) : Array Value := #[.agg (idC x.xs), .slice x.p x.l x.c]
/-- What a round must keep: the rows, and the blocks of G. -/
structure KpS (G : Nat → Prop) (W W' : World) : Prop where
  rows : ∀ (k : Nat) (c : Array Value), W.heap[k]? = some (Obj.cells c 68 (0, 0)) → W'.heap[k]? = W.heap[k]?
  held : ∀ k, G k → W'.heap[k]? = W.heap[k]?
theorem KpS.trans {G : Nat → Prop} {A B C : World} (h : KpS G A B) (k : KpS G B C) : KpS G A C :=
  ⟨fun i c hi => (k.rows i c ((h.rows i c hi).trans hi)).trans (h.rows i c hi), fun i hi => (k.held i hi).trans (h.held i hi)⟩
/-- The blocks of the encodings. -/
def Gof (D : DataW Unit) (k : Nat) : Prop := ∃ kl m c, Maps.has D kl = true ∧ D.atKey kl .nil = slD k m c ∧ m ≠ 0
def NonE (D : DataW Unit) : Prop := ∀ kl g m c, Maps.has D kl = true → D.atKey kl .nil = slD g m c → m ≠ 0
/-- All ids, the least first; the first ones. -/
def TellsAll (D : DataW Unit) (xs : List RowE) : Prop := ∃ L, RowsOf D L ∧ SortedIds (L.map (·.xs)) ∧ xs.map (·.xs) = L.map (·.xs)
def TellsSome (D : DataW Unit) (xs : List RowE) : Prop := ∃ L k, RowsOf D L ∧ SortedIds (L.map (·.xs)) ∧ xs.map (·.xs) = (L.take k).map (·.xs)
theorem Gof.lt {w : World} {s b n : Nat} {D : DataW Unit} (h : St w s b n D) {k : Nat} (hG : Gof D k) : k < w.heap.size := by
  obtain ⟨kl, m, c, h1, h2, h3⟩ := hG
  rcases Nat.lt_or_ge k w.heap.size with h4 | h4
  · exact h4
  · rcases h.below h4 kl k m c h1 h2 with e | e
    · exact absurd rfl e
    · exact absurd e h3
theorem takeI {n : Nat} {P : Program} {ops : Array Oper} {Q : Exit → Act → World → Prop} {md : Region.Mode} (i : Nat) {oi : Oper} {v : Value} (d : Option Tmp) {fuel : Nat} {listed : Array Bool} (listed' : Array Bool) {a : Act} {w : World} (hi : ops[i]? = some oi) (hd : oi.dst = d) (hl : listed.setIfInBounds i true = listed')
    (hs : Region.noSelect ops = true) (hf : Region.free md ops listed i = true) (hr : (Region.ready md ops listed).contains i = true)
    (hQ : ∀ c a w, Q (.panic c) (a.put d v) w → Q (.panic c) a w) (hy : YieldsFenced P ops oi v a) (h : wpAnyIn Fence.wide n P md ops Q fuel listed' (a.put d v) w) : wpAnyIn Fence.wide n P md ops Q (fuel + 1) listed a w := by
  subst hd hl
  exact wpAnyIn_take rfl hi hs hf hr hQ hy h
theorem Tryz.entersClone : ∀ args w, (callFunc 26 args).run Tryz.prog w = .ok (.enter 26 args) w := enters_of Tryz.func26 (by kernel_rfl) rfl
theorem Tryz.loadSl {w : World} {b o : Nat} {v : Value} (h : w.cell? ⟨b, o, none⟩ = some v) : (loadVar 37 ⟨b, o, none⟩).run Tryz.prog w = .ok v w := by
  go_simp
theorem Tryz.rowSize : (Tryz.prog.info? 68).map (·.size) = some 33 := by kernel_rfl
/-- What a round is handed: an id, and a list of its own that was made behind A. -/
def GvS (Qp : Lit → List Int → Prop) (x : RowE) (A B : World) : Prop := Kept [] A B ∧ ∃ g ys, x.p = some ⟨g, 0, none⟩ ∧ A.heap.size ≤ g ∧ OwnB B A.heap.size (.slice x.p x.l x.c) ys ∧ ys.length = x.l ∧ ys.length ≤ 65536 ∧ ys ≠ [] ∧ Qp (idKey x.xs) ys
set_option maxRecDepth 100000 in
set_option maxHeartbeats 4000000 in
theorem all_G {w : World} {s b n : Nat} {D : DataW Unit} (h : St w s b n D) (hn : n ≤ 1000000) (hE : NonE D) (Qp : Lit → List Int → Prop) (hQ : ∀ kl g m c ys, Maps.has D kl = true → D.atKey kl .nil = slD g m c → BytesAt w (.slice (some ⟨g, 0, none⟩) m c) ys → Qp kl ys) (bs : Nat) (hbs : w.cell? ⟨bs, 0, none⟩ = some (.pointer (some ⟨s, 0, none⟩))) (q : Nat) :
    SeqG Fence.wide q Tryz.prog 24 #[.pointer (some ⟨bs, 0, none⟩)] encsR (KpS (Gof D)) (GvS Qp) (TellsAll D) (TellsSome D) 1000000 w := by
  intro l J Jx W hW hJ hJx hY h0
  have kW : Kept [] w W := kept_of_below hW
  have hst := h.on kW
  have hrows := Rows_any hst hn
  have hc := kW.cell hbs (by simp)
  have HST : Hid (St W s b n D) := hst
  have HE : Hid (NonE D) := hE
  have HJ : Hid (∀ pre A B, J pre A → Kept [] A B → J pre B) := fun pre A B ha hk => hJ pre A B none ha hk.grows (fun r e => by cases e)
  have HY : Hid (∀ pre x A W1, J pre A → GvS Qp x A W1 → pre.length < 1000000 → YieldAt Fence.wide (q - 1) Tryz.prog l (encsR x) W1 fun e W' =>
      (e = .returned (.bool true) ∧ J (pre ++ [x]) W' ∧ KpS (Gof D) W1 W') ∨ (e = .returned (.bool false) ∧ Jx (pre ++ [x]) W')) := hY
  have HQ : Hid (∀ kl g m c ys, Maps.has D kl = true → D.atKey kl .nil = slD g m c → BytesAt W (.slice (some ⟨g, 0, none⟩) m c) ys → Qp kl ys) := fun kl g m c ys hk he hb => by
    obtain ⟨g', c', zs, h1, _, _, _, h5⟩ := h.lists kl hk
    obtain ⟨rfl, h6, rfl⟩ := slD_inj (he.symm.trans h1)
    subst h6
    have h7 := h5.kept' kW (fun _ _ _ => by simp)
    obtain rfl : zs = ys := h7.uniq hb
    exact hQ kl _ _ _ _ hk he h5
  have HJ0 : Hid (J [] W) := h0
  clear h hn hE hbs hW hJ hJx hY h0 kW hst hQ
  refine callsIn_of_wp Tryz.func24 rfl trivial ?_ rfl
  simp only [Tryz.ntmps24, List.size_toArray, List.length_cons, List.length_nil, Nat.reduceAdd, Nat.reduceSub, Array.replicate_succ, Array.replicate_zero, List.push_toArray, List.append_toArray, List.nil_append, List.cons_append]
  gi_wp2_with fail
  refine ⟨trivial, fun h => (by cases h), ?_⟩
  refine (callsIn_wide.2 hrows).mono ?_
  rintro e w1 ⟨g, cap, L, rfl, hll, hRB, hRO, hSO, hg, k1⟩
  have HL : Hid (RowsB w1 g L ∧ RowsOf D L ∧ SortedIds (L.map (·.xs)) ∧ W.heap.size ≤ g ∧ Kept [] W w1) := ⟨hRB, hRO, hSO, hg, k1⟩
  have HJ1 : Hid (J [] w1) := HJ.out [] W w1 HJ0.out k1
  clear hrows hRB hRO hSO hg k1 HJ0
  gi_wp2_with fail
  gi_loopw [4, 8] (fun _ s8 wr => ∃ k : Nat, k ≤ L.length ∧ s8 = .int .i64 k ∧ Hid (RowsB wr g L ∧ (∀ b, Gof D b → wr.heap[b]? = W.heap[b]?) ∧ ∃ pre, pre.length = k ∧ pre.map (·.xs) = (L.take k).map (·.xs) ∧ J pre wr)) (fun _ s8 _ => L.length - (intOf s8).toNat)
  case atStart => exact ⟨0, Nat.zero_le _, rfl, HL.out.1, fun b hb => HL.out.2.2.2.2.block b (hb.lt HST.out) (by simp), [], rfl, rfl, HJ1.out⟩
  case round =>
    obtain ⟨k, hk, rfl, HH⟩ := hrel
    by_cases hlt : k < L.length
    · have t1 : decide ((k : Int) < (L.length : Int)) = true := decide_eq_true (by omega)
      obtain ⟨x, hx⟩ : ∃ x, L[k]? = some x := ⟨_, List.getElem?_eq_getElem hlt⟩
      have hxm := List.mem_of_getElem? hx
      obtain ⟨hhas, gg, hp, hat⟩ := HL.out.2.1.mem x hxm
      have hne := HE.out _ gg x.l x.c hhas hat
      have hG : Gof D gg := ⟨_, _, _, hhas, hat, hne⟩
      obtain ⟨hRB, hGk, pre, hpl, hpm, hJp⟩ := HH.out
      have hr := hRB.cells k x hx
      obtain ⟨xs, hb⟩ : ∃ xs, BytesAt W (.slice (some ⟨gg, 0, none⟩) x.l x.c) xs ∧ xs.length = x.l ∧ xs.length ≤ 65536 := by
        obtain ⟨g', c', xs, h1, _, _, h4, h5⟩ := HST.out.lists _ hhas
        obtain ⟨rfl, h6, rfl⟩ := slD_inj (hat.symm.trans h1)
        exact ⟨xs, by rw [h6]; exact h5, h6.symm, h4⟩
      obtain ⟨w2, hw2⟩ : ∃ w2, w2 = wr.alloc (.cells (encRow x).toArray 68) := ⟨_, rfl⟩
      have HW2 : Hid (w2 = wr.alloc (.cells (encRow x).toArray 68)) := hw2
      have k2 : Kept [] wr w2 := by rw [hw2]; exact (Kept.refl _ _).alloc _
      have HSZ : Hid (wr.heap.size ≤ w2.heap.size) := k2.size
      have hsr : (Tryz.prog.info? 68).map (·.size) = some (encRow x).length := by rw [encRow_len]; exact Tryz.rowSize
      have hsa : (Tryz.prog.info? 68).map (·.size) = some (encRow x).toArray.size := by rw [List.size_toArray]; exact hsr
      have hsz33 : (encRow x).toArray.size = 33 := by rw [List.size_toArray, encRow_len]
      have hone : (encRow x).toArray.all (·.oneCell') = true := all_oneCell_toArray (encRow_one x)
      have hur := Tryz.underlying68
      have hr0 : w2.rangeAt wr.heap.size 0 (encRow x) := by rw [hw2]; exact row_range (heap_alloc_new wr _)
      have HID : Hid (∀ W1, Kept [] w2 W1 → W1.rangeAt wr.heap.size 0 (x.xs.map (Value.int .u8))) := fun W1 k1 j v hv => k1.cell (hr0 j v (by
        unfold encRow
        rw [List.getElem?_append_left (by simpa using (List.getElem?_eq_some_iff.1 hv).1)]
        exact hv)) (by simp)
      have HSL : Hid (∀ W1, Kept [] w2 W1 → (loadVar 37 ⟨wr.heap.size, 32, none⟩).run Tryz.prog W1 = .ok (.slice (some ⟨gg, 0, none⟩) x.l x.c) W1) := fun W1 k1 => Tryz.loadSl (k1.cell (by
        have h1 := hr0 32 (.slice x.p x.l x.c) (by
          unfold encRow
          rw [List.getElem?_append_right (by simp [x.good.1])]
          simp [x.good.1])
        rw [hp] at h1
        exact h1) (by simp))
      have HCL : Hid (∀ W1, Kept [] w2 W1 → Calls Tryz.prog 26 #[.slice (some ⟨gg, 0, none⟩) x.l x.c] W1 fun e w' => ∃ g c, e = .returned (.slice (some ⟨g, 0, none⟩) x.l c) ∧ OwnB w' W1.heap.size (.slice (some ⟨g, 0, none⟩) x.l c) xs ∧ W1.heap.size ≤ g ∧ Kept [] W1 w') := fun W1 k1 => by
        have hb1 : BytesAt wr (.slice (some ⟨gg, 0, none⟩) xs.length x.c) xs := by
          have h0 := hb.1
          rw [← hb.2.1] at h0
          obtain ⟨ao, cap', he, q1, q2, q3⟩ := h0
          refine ⟨ao, cap', he, q1, q2, fun hne' => ?_⟩
          obtain ⟨b', off, rfl, q4⟩ := q3 hne'
          injection he with he _ _
          injection he with he
          injection he with he1 he2 _
          refine ⟨b', off, rfl, fun i u hu => (World.cell?_of_block (w := W) (a := ⟨b', off + i, none⟩) ?_).trans (q4 i u hu)⟩
          show wr.heap[b']? = W.heap[b']?
          rw [← he1]
          exact hGk gg hG
        have h2 := Clone_own ⟨gg, 0, none⟩ x.c xs W1 (hb1.kept' (k2.then k1) (fun _ _ _ => by simp)) (fun e => hne (by rw [← hb.2.1, e]; rfl)) (by omega)
        rw [hb.2.1] at h2
        exact h2
      have HYY : Hid (∀ g3 c3 W1, Kept [] w2 W1 → (OwnB W1 wr.heap.size (.slice (some ⟨g3, 0, none⟩) x.l c3) xs ∧ wr.heap.size ≤ g3) → YieldAt Fence.wide (q - 1) Tryz.prog l #[.agg (idC x.xs), .slice (some ⟨g3, 0, none⟩) x.l c3] W1 fun e W' =>
          (e = .returned (.bool true) ∧ Hid (RowsB W' g L ∧ (∀ b, Gof D b → W'.heap[b]? = W.heap[b]?) ∧ ∃ pre, pre.length = k + 1 ∧ pre.map (·.xs) = (L.take (k + 1)).map (·.xs) ∧ J pre W')) ∨ (e = .returned (.bool false) ∧ Hid (TellsSome D (pre ++ [⟨x.xs, some ⟨g3, 0, none⟩, x.l, c3, x.good⟩]) ∧ Jx (pre ++ [⟨x.xs, some ⟨g3, 0, none⟩, x.l, c3, x.good⟩]) W'))) := fun g3 c3 W1 k1 hown => by
        have kk : Kept [] wr W1 := k2.then k1
        have hy := HY.out pre ⟨x.xs, some ⟨g3, 0, none⟩, x.l, c3, x.good⟩ wr W1 hJp ⟨kk, g3, xs, rfl, hown.2, hown.1, hb.2.1, hb.2.2, fun e => hne (by rw [← hb.2.1, e]; rfl), HQ.out _ gg x.l x.c xs hhas hat hb.1⟩ (by omega)
        have hmap : (pre ++ [(⟨x.xs, some ⟨g3, 0, none⟩, x.l, c3, x.good⟩ : RowE)]).map (·.xs) = (L.take (k + 1)).map (·.xs) := by
          rw [List.map_append, hpm, List.take_add_one, hx, List.map_append]
          rfl
        refine YieldAt.mono hy ?_
        rintro e W' (⟨rfl, h1, h2⟩ | ⟨rfl, h1⟩)
        · refine Or.inl ⟨rfl, ?_, fun b' hb' => (h2.held b' hb').trans ((kk.block b' ?_ (by simp)).trans (hGk b' hb')), _, by simp [hpl], hmap, h1⟩
          · obtain ⟨c0, hc0⟩ := hRB.tag
            have hgW : W1.heap[g]? = wr.heap[g]? := kk.block g (lt_of_block hc0) (by simp)
            exact hRB.same ((h2.rows g c0 (hgW.trans hc0)).trans hgW)
          · exact (Array.getElem?_eq_some_iff.1 ((hGk b' hb').trans (Array.getElem?_eq_getElem (hb'.lt HST.out)))).1
        · exact Or.inr ⟨rfl, ⟨L, k + 1, HL.out.2.1, HL.out.2.2.1, hmap⟩, h1⟩
      have hui := Tryz.underlying36
      have hsi : (Tryz.prog.info? 36).map (·.size) = some (x.xs.map (Value.int .u8)).length := by rw [List.length_map, x.good.1]; exact Tryz.infoID
      have hidc : (x.xs.map (Value.int .u8)).toArray = idC x.xs := rfl
      clear hRB hGk hJp hpl hpm hb hhas hat hG HH hxm hx
      generalize hEx : encRow x = us at *
      gi_wp2_with (first
        | (refine listIn_load_mid (by rfl) 68 (.tmp 10) (by rfl) g (k * 33) (by rfl) us _ hr hur rfl hsr ?_)
        | (refine listIn_store_new (by rfl) 68 (.tmp 4) (.tmp 11) (by rfl) wr _ us.toArray (by rfl) (by rfl) hsa (by rw [hsz33]; rfl) hone ?_))
      rw [← HW2.out]
      -- REGION
      refine wpIn_region_any (by kernel_rfl) ?_
      change wpAnyIn _ _ _ _ _ _ _ _ _ w2.drew
      refine takeI 0 (v := .func (.yield l) #[] #[]) (some 12) #[true, false, false, false, false, false, false, false] rfl rfl rfl (by kernel_rfl) (by kernel_rfl) (by kernel_rfl) (fun _ _ _ h => h) ⟨Or.inl ⟨by rfl, fun W => by go_simp⟩, fun W => by simp [Oper.about]⟩ ?_
      simp only [Act.put, List.setIfInBounds_toArray, List.set_cons_zero, List.set_cons_succ]
      refine takeI 1 (v := .pointer (some ⟨wr.heap.size, 0, none⟩)) (some 13) #[true, true, false, false, false, false, false, false] rfl rfl rfl (by kernel_rfl) (by kernel_rfl) (by kernel_rfl) (fun _ _ _ h => h) ⟨Or.inl ⟨by rfl, fun W => by go_simp⟩, fun W => by simp [Oper.about]⟩ ?_
      simp only [Act.put, List.setIfInBounds_toArray, List.set_cons_zero, List.set_cons_succ]
      refine takeI 3 (v := .pointer (some ⟨wr.heap.size, 32, none⟩)) (some 15) #[true, true, false, true, false, false, false, false] rfl rfl rfl (by kernel_rfl) (by kernel_rfl) (by kernel_rfl) (fun _ _ _ h => h) ⟨Or.inl ⟨by rfl, fun W => by go_simp⟩, fun W => by simp [Oper.about]⟩ ?_
      simp only [Act.put, List.setIfInBounds_toArray, List.set_cons_zero, List.set_cons_succ]
      have HK2 : Hid (Kept [] w2 w2.drew) := (Kept.refl [] w2).drew
      refine wpAnyIn_ready (rs := [2, 4]) (by kernel_rfl) (by simp) (AllReadyIn.cons rfl (fun K hK => ?_) (AllReadyIn.cons rfl (fun K hK => ?_) AllReadyIn.nil))
      · skip
        rw [if_pos (by rfl)]
        refine opIn_load_mid (some 14) rfl 36 (.tmp 13) rfl wr.heap.size 0 rfl (x.xs.map (Value.int .u8)) _ (HID.out _ HK2.out) hui rfl hsi (hK _ _ ?_)
        clear hK K
        simp only [Act.put, List.setIfInBounds_toArray, List.set_cons_zero, List.set_cons_succ]
        refine wpAnyIn_ready (rs := [4]) (by kernel_rfl) (by simp) (AllReadyIn.cons rfl (fun K hK => ?_) AllReadyIn.nil)
        rw [if_pos (by rfl)]
        refine opIn_load_run (some 16) rfl 37 (.tmp 15) rfl ⟨wr.heap.size, 32, none⟩ rfl _ (HSL.out _ HK2.out) (hK _ _ ?_)
        clear hK K
        simp only [Act.put, List.setIfInBounds_toArray, List.set_cons_zero, List.set_cons_succ]
        refine wpAnyIn_ready (rs := [5]) (by kernel_rfl) (by simp) (AllReadyIn.cons rfl (fun K hK => ?_) AllReadyIn.nil)
        rw [if_pos (by rfl)]
        refine opIn_call (some 17) rfl rfl #[.slice (some ⟨gg, 0, none⟩) x.l x.c] (by go_simp) Tryz.entersClone (HCL.out _ HK2.out) ?_
        rintro e w3 ⟨g3, c3, rfl, b3, hg3, k3⟩
        have HK3 : Hid (Kept [] w2 w3) := HK2.out.then k3
        have HB3 : Hid (OwnB w3 wr.heap.size (.slice (some ⟨g3, 0, none⟩) x.l c3) xs ∧ wr.heap.size ≤ g3) := ⟨owns_lower b3 (Nat.le_trans HSZ.out HK2.out.size), Nat.le_trans (Nat.le_trans HSZ.out HK2.out.size) hg3⟩
        refine ⟨_, rfl, hK _ _ ?_⟩
        clear hK K b3 hg3 k3
        simp only [Act.put, List.setIfInBounds_toArray, List.set_cons_zero, List.set_cons_succ]
        refine wpAnyIn_ready (rs := [6]) (by kernel_rfl) (by simp) (AllReadyIn.cons rfl (fun K hK => ?_) AllReadyIn.nil)
        rw [if_pos (by rfl)]
        refine opIn_yield (some 18) rfl rfl rfl #[.agg (idC x.xs), .slice (some ⟨g3, 0, none⟩) x.l c3] (by go_simp) (HYY.out g3 c3 w3 HK3.out HB3.out) ?_
        rintro e w4 (⟨rfl, HG4⟩ | ⟨rfl, HX4⟩)
        · refine ⟨_, rfl, hK _ _ ?_⟩
          clear hK K
          simp only [Act.put, List.setIfInBounds_toArray, List.set_cons_zero, List.set_cons_succ]
          refine takeI 7 (v := .bool false) (some 19) #[true, true, true, true, true, true, true, true] rfl rfl rfl (by kernel_rfl) (by kernel_rfl) (by kernel_rfl) (fun _ _ _ h => h) ⟨Or.inl ⟨by rfl, fun W => by go_simp⟩, fun W => by simp [Oper.about]⟩ ?_
          simp only [Act.put, List.setIfInBounds_toArray, List.set_cons_zero, List.set_cons_succ]
          refine wpAnyIn_done (by kernel_rfl) ?_ _
          gi_wp2
          go_roundw
          case rel => exact ⟨k + 1, by omega, by go_num, HG4⟩
          case measure => simp [intOf]; omega
        · refine ⟨_, rfl, hK _ _ ?_⟩
          clear hK K
          simp only [Act.put, List.setIfInBounds_toArray, List.set_cons_zero, List.set_cons_succ]
          refine takeI 7 (v := .bool true) (some 19) #[true, true, true, true, true, true, true, true] rfl rfl rfl (by kernel_rfl) (by kernel_rfl) (by kernel_rfl) (fun _ _ _ h => h) ⟨Or.inl ⟨by rfl, fun W => by go_simp⟩, fun W => by simp [Oper.about]⟩ ?_
          simp only [Act.put, List.setIfInBounds_toArray, List.set_cons_zero, List.set_cons_succ]
          refine wpAnyIn_done (by kernel_rfl) ?_ _
          gi_wp2
          refine bodyPost_ret (results_none rfl _ _ _) rfl ?_
          exact ⟨⟨_, rfl⟩, .inr ⟨_, HX4.out.1, HX4.out.2⟩⟩
      · skip
        rw [if_pos (by rfl)]
        refine opIn_load_run (some 16) rfl 37 (.tmp 15) rfl ⟨wr.heap.size, 32, none⟩ rfl _ (HSL.out _ HK2.out) (hK _ _ ?_)
        clear hK K
        simp only [Act.put, List.setIfInBounds_toArray, List.set_cons_zero, List.set_cons_succ]
        refine wpAnyIn_ready (rs := [2, 5]) (by kernel_rfl) (by simp) (AllReadyIn.cons rfl (fun K hK => ?_) (AllReadyIn.cons rfl (fun K hK => ?_) AllReadyIn.nil))
        · skip
          rw [if_pos (by rfl)]
          refine opIn_load_mid (some 14) rfl 36 (.tmp 13) rfl wr.heap.size 0 rfl (x.xs.map (Value.int .u8)) _ (HID.out _ HK2.out) hui rfl hsi (hK _ _ ?_)
          clear hK K
          simp only [Act.put, List.setIfInBounds_toArray, List.set_cons_zero, List.set_cons_succ]
          refine wpAnyIn_ready (rs := [5]) (by kernel_rfl) (by simp) (AllReadyIn.cons rfl (fun K hK => ?_) AllReadyIn.nil)
          rw [if_pos (by rfl)]
          refine opIn_call (some 17) rfl rfl #[.slice (some ⟨gg, 0, none⟩) x.l x.c] (by go_simp) Tryz.entersClone (HCL.out _ HK2.out) ?_
          rintro e w3 ⟨g3, c3, rfl, b3, hg3, k3⟩
          have HK3 : Hid (Kept [] w2 w3) := HK2.out.then k3
          have HB3 : Hid (OwnB w3 wr.heap.size (.slice (some ⟨g3, 0, none⟩) x.l c3) xs ∧ wr.heap.size ≤ g3) := ⟨owns_lower b3 (Nat.le_trans HSZ.out HK2.out.size), Nat.le_trans (Nat.le_trans HSZ.out HK2.out.size) hg3⟩
          refine ⟨_, rfl, hK _ _ ?_⟩
          clear hK K b3 hg3 k3
          simp only [Act.put, List.setIfInBounds_toArray, List.set_cons_zero, List.set_cons_succ]
          refine wpAnyIn_ready (rs := [6]) (by kernel_rfl) (by simp) (AllReadyIn.cons rfl (fun K hK => ?_) AllReadyIn.nil)
          rw [if_pos (by rfl)]
          refine opIn_yield (some 18) rfl rfl rfl #[.agg (idC x.xs), .slice (some ⟨g3, 0, none⟩) x.l c3] (by go_simp) (HYY.out g3 c3 w3 HK3.out HB3.out) ?_
          rintro e w4 (⟨rfl, HG4⟩ | ⟨rfl, HX4⟩)
          · refine ⟨_, rfl, hK _ _ ?_⟩
            clear hK K
            simp only [Act.put, List.setIfInBounds_toArray, List.set_cons_zero, List.set_cons_succ]
            refine takeI 7 (v := .bool false) (some 19) #[true, true, true, true, true, true, true, true] rfl rfl rfl (by kernel_rfl) (by kernel_rfl) (by kernel_rfl) (fun _ _ _ h => h) ⟨Or.inl ⟨by rfl, fun W => by go_simp⟩, fun W => by simp [Oper.about]⟩ ?_
            simp only [Act.put, List.setIfInBounds_toArray, List.set_cons_zero, List.set_cons_succ]
            refine wpAnyIn_done (by kernel_rfl) ?_ _
            gi_wp2
            go_roundw
            case rel => exact ⟨k + 1, by omega, by go_num, HG4⟩
            case measure => simp [intOf]; omega
          · refine ⟨_, rfl, hK _ _ ?_⟩
            clear hK K
            simp only [Act.put, List.setIfInBounds_toArray, List.set_cons_zero, List.set_cons_succ]
            refine takeI 7 (v := .bool true) (some 19) #[true, true, true, true, true, true, true, true] rfl rfl rfl (by kernel_rfl) (by kernel_rfl) (by kernel_rfl) (fun _ _ _ h => h) ⟨Or.inl ⟨by rfl, fun W => by go_simp⟩, fun W => by simp [Oper.about]⟩ ?_
            simp only [Act.put, List.setIfInBounds_toArray, List.set_cons_zero, List.set_cons_succ]
            refine wpAnyIn_done (by kernel_rfl) ?_ _
            gi_wp2
            refine bodyPost_ret (results_none rfl _ _ _) rfl ?_
            exact ⟨⟨_, rfl⟩, .inr ⟨_, HX4.out.1, HX4.out.2⟩⟩
        · skip
          rw [if_pos (by rfl)]
          refine opIn_call (some 17) rfl rfl #[.slice (some ⟨gg, 0, none⟩) x.l x.c] (by go_simp) Tryz.entersClone (HCL.out _ HK2.out) ?_
          rintro e w3 ⟨g3, c3, rfl, b3, hg3, k3⟩
          have HK3 : Hid (Kept [] w2 w3) := HK2.out.then k3
          have HB3 : Hid (OwnB w3 wr.heap.size (.slice (some ⟨g3, 0, none⟩) x.l c3) xs ∧ wr.heap.size ≤ g3) := ⟨owns_lower b3 (Nat.le_trans HSZ.out HK2.out.size), Nat.le_trans (Nat.le_trans HSZ.out HK2.out.size) hg3⟩
          refine ⟨_, rfl, hK _ _ ?_⟩
          clear hK K b3 hg3 k3
          simp only [Act.put, List.setIfInBounds_toArray, List.set_cons_zero, List.set_cons_succ]
          refine wpAnyIn_ready (rs := [2]) (by kernel_rfl) (by simp) (AllReadyIn.cons rfl (fun K hK => ?_) AllReadyIn.nil)
          rw [if_pos (by rfl)]
          refine opIn_load_mid (some 14) rfl 36 (.tmp 13) rfl wr.heap.size 0 rfl (x.xs.map (Value.int .u8)) _ (HID.out _ HK3.out) hui rfl hsi (hK _ _ ?_)
          clear hK K
          simp only [Act.put, List.setIfInBounds_toArray, List.set_cons_zero, List.set_cons_succ]
          refine wpAnyIn_ready (rs := [6]) (by kernel_rfl) (by simp) (AllReadyIn.cons rfl (fun K hK => ?_) AllReadyIn.nil)
          rw [if_pos (by rfl)]
          refine opIn_yield (some 18) rfl rfl rfl #[.agg (idC x.xs), .slice (some ⟨g3, 0, none⟩) x.l c3] (by go_simp) (HYY.out g3 c3 w3 HK3.out HB3.out) ?_
          rintro e w4 (⟨rfl, HG4⟩ | ⟨rfl, HX4⟩)
          · refine ⟨_, rfl, hK _ _ ?_⟩
            clear hK K
            simp only [Act.put, List.setIfInBounds_toArray, List.set_cons_zero, List.set_cons_succ]
            refine takeI 7 (v := .bool false) (some 19) #[true, true, true, true, true, true, true, true] rfl rfl rfl (by kernel_rfl) (by kernel_rfl) (by kernel_rfl) (fun _ _ _ h => h) ⟨Or.inl ⟨by rfl, fun W => by go_simp⟩, fun W => by simp [Oper.about]⟩ ?_
            simp only [Act.put, List.setIfInBounds_toArray, List.set_cons_zero, List.set_cons_succ]
            refine wpAnyIn_done (by kernel_rfl) ?_ _
            gi_wp2
            go_roundw
            case rel => exact ⟨k + 1, by omega, by go_num, HG4⟩
            case measure => simp [intOf]; omega
          · refine ⟨_, rfl, hK _ _ ?_⟩
            clear hK K
            simp only [Act.put, List.setIfInBounds_toArray, List.set_cons_zero, List.set_cons_succ]
            refine takeI 7 (v := .bool true) (some 19) #[true, true, true, true, true, true, true, true] rfl rfl rfl (by kernel_rfl) (by kernel_rfl) (by kernel_rfl) (fun _ _ _ h => h) ⟨Or.inl ⟨by rfl, fun W => by go_simp⟩, fun W => by simp [Oper.about]⟩ ?_
            simp only [Act.put, List.setIfInBounds_toArray, List.set_cons_zero, List.set_cons_succ]
            refine wpAnyIn_done (by kernel_rfl) ?_ _
            gi_wp2
            refine bodyPost_ret (results_none rfl _ _ _) rfl ?_
            exact ⟨⟨_, rfl⟩, .inr ⟨_, HX4.out.1, HX4.out.2⟩⟩
      -- END REGION
    · have t1 : decide ((k : Int) < (L.length : Int)) = false := decide_eq_false (by omega)
      obtain ⟨_, _, pre, hpl, hpm, hJp⟩ := HH.out
      have HF : Hid (TellsAll D pre ∧ J pre wr) := ⟨⟨L, HL.out.2.1, HL.out.2.2.1, by rw [hpm, List.take_of_length_le (by omega)]⟩, hJp⟩
      clear HH hpl hpm hJp
      gi_wp2
      go_end0
      exact ⟨⟨_, rfl⟩, .inl ⟨pre, HF.out.1, HF.out.2⟩⟩
/-- The same, for rounds that ask nothing of the list. -/
theorem all_stops {w : World} {s b n : Nat} {D : DataW Unit} (h : St w s b n D) (hn : n ≤ 1000000) (hE : NonE D) (bs : Nat) (hbs : w.cell? ⟨bs, 0, none⟩ = some (.pointer (some ⟨s, 0, none⟩))) (q : Nat) :
    SeqStopsK Fence.wide q Tryz.prog 24 #[.pointer (some ⟨bs, 0, none⟩)] encsR (KpS (Gof D)) (TellsAll D) (TellsSome D) 1000000 w := by
  intro l J Jx W hW hJ hJx hY h0
  exact all_G h hn hE (fun _ _ => True) (fun _ _ _ _ _ _ _ _ => trivial) bs hbs q l J Jx W hW hJ hJx (fun pre x A B hA hx hl => hY pre x B (hJ pre A B none hA hx.1.grows (fun r e => by cases e)) hl) h0
end Go.Proofs.YtddhhjgegkkjbaaGreatDoor
