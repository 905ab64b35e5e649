/-
  WALK: delta.indexed.
-/
import Derived.Test.YtldhbcppnoldiaaMn6
namespace Go.Proofs.Ytldhbcppnoldiaa
open Go.RowKit Go.WideMaps

/-- The key of the piece that a text begins with. -/
def keyAt : List Int → Lit
  | x0 :: x1 :: x2 :: x3 :: _ => keyP x0 x1 x2 x3
  | _ => keyP 0 0 0 0
/-- One place more is laid into the index. -/
def ixStep (bs : List Int) (S : DataW Unit × List Int) (k : Nat) : DataW Unit × List Int := (S.1.put (keyAt (bs.drop k)) (.lit (.int .i64 k)), S.2.set k (findD S.1 (bs.drop k)))
/-- The index after so many places from the end: what the map says, and the next places. -/
def ixAt (bs : List Int) : Nat → DataW Unit × List Int
  | 0 => (.map [], List.replicate bs.length 0)
  | c + 1 => ixStep bs (ixAt bs c) (bs.length - 4 - c)
def ixL (bs : List Int) : DataW Unit × List Int := ixAt bs (bs.length - 3)

def IdxMapN (w : World) (b N n : Nat) (D : DataW Unit) : Prop := w.ownsMap Try.prog 171 (inR (max N 1)) b n D ∧ (N = 0 → D = .map [])
theorem IdxMapN.kept {S : List Nat} {w w' : World} {b N n : Nat} {D : DataW Unit} (h : IdxMapN w b N n D) (k : Kept S w w') (hb : b ∉ S) : IdxMapN w' b N n D := by
  obtain ⟨⟨es, clock, hh, rest⟩, h2⟩ := h
  exact ⟨⟨es, clock, k.heap hh hb, rest⟩, h2⟩
theorem IdxMapN.all {w : World} {b N n : Nat} {D : DataW Unit} (h : IdxMapN w b N n D) (hn : n ≤ 65536) : IdxMap w b N D := by
  obtain ⟨h1, h2⟩ := h
  exact ⟨n, h1, hn, h2⟩
theorem IdxMapN.put {w : World} {b N n : Nat} {D : DataW Unit} (h : IdxMapN w b N n D) (hn : n ≤ 65536) {p : Int} (hp : 0 ≤ p ∧ p < N) {key : Value} {kl : Lit} (hkey : keyOf Try.prog 171 key = some kl) :
    ∃ w', (Instr.mapUpdate 128 (.map (some b)) key (.int .i64 p)).run Try.prog w = .ok () w' ∧ IdxMapN w' b N (n + 1) (D.put kl (.lit (.int .i64 p))) ∧ Kept [b] w w' := by
  obtain ⟨ho, hN⟩ := h
  obtain ⟨w', hrun, ho', hg⟩ := ho.update Try.keyPc Try.underlying128 (by unfold maxLen; omega) hkey (inR_mk (N := max N 1) (a := p) (by omega))
  exact ⟨w', hrun, ⟨ho', fun e => by omega⟩, (Kept.refl [b] w).grown hg (fun k hk => Or.inl (by cases hk; simp))⟩

/-- The row of the next places. -/
def NextAt (w : World) (nb N : Nat) (l : List Int) : Prop := l.length = N ∧ (∀ v, v ∈ l → v = -1 ∨ (0 ≤ v ∧ v < N)) ∧ w.heap[nb]? = some (.cells (l.map (Value.int .i64)).toArray 3 (0, 0))
theorem NextAt.kept {S : List Nat} {w w' : World} {nb N : Nat} {l : List Int} (h : NextAt w nb N l) (k : Kept S w w') (hb : nb ∉ S) : NextAt w' nb N l := by
  obtain ⟨h1, h2, h3⟩ := h
  exact ⟨h1, h2, k.heap h3 hb⟩
theorem NextAt.cell {w : World} {nb N : Nat} {l : List Int} (h : NextAt w nb N l) (j : Nat) (hj : j < N) : w.cell? ⟨nb, j, none⟩ = some (.int .i64 (l.getD j 0)) ∧ (l.getD j 0 = -1 ∨ (0 ≤ l.getD j 0 ∧ l.getD j 0 < N)) ∧ w.frozen? ⟨nb, j, none⟩ = false := by
  obtain ⟨h1, h2, h3⟩ := h
  have e : l.getD j 0 = l[j]'(by omega) := by simp [List.getD, List.getElem?_eq_getElem (show j < l.length by omega)]
  rw [e]
  refine ⟨?_, h2 _ (List.getElem_mem _), frozen_of_row _ _ _ _ _ h3⟩
  rw [cell_of_row w nb j _ _ _ h3]
  simp [List.getElem?_eq_getElem (show j < l.length by omega)]
theorem NextAt.cell' {w : World} {nb N : Nat} {l : List Int} (h : NextAt w nb N l) (j : Nat) (hj : j < N) : ∃ x : Int, w.cell? ⟨nb, j, none⟩ = some (.int .i64 x) ∧ w.frozen? ⟨nb, j, none⟩ = false := ⟨_, (h.cell j hj).1, (h.cell j hj).2.2⟩
theorem NextAt.set {w : World} {nb N : Nat} {l : List Int} (h : NextAt w nb N l) (j : Nat) (v : Int) (hv : v = -1 ∨ (0 ≤ v ∧ v < N)) : NextAt (w.setCell ⟨nb, j, none⟩ (.int .i64 v)) nb N (l.set j v) := by
  obtain ⟨h1, h2, h3⟩ := h
  refine ⟨by simpa using h1, fun u hu => ?_, ?_⟩
  · rcases List.mem_or_eq_of_mem_set hu with h | h
    · exact h2 u h
    · rw [h]; exact hv
  · have e := heap_setCell_same w nb j _ 3 (.int .i64 v) h3
    rw [e]
    simp [List.map_set]

/-- The index as it is made. -/
structure IxSt (w W : World) (rb mp nb xb N n : Nat) (S : DataW Unit × List Int) : Prop where
  kept : Kept [] w W
  res : W.heap[rb]? = some (.cells #[.map none, .slice none 0 0] 130 (0, 0))
  map : IdxMapN W mp N n S.1
  next : NextAt W nb N S.2
  box : W.heap[xb]? = some (.cells #[.map (some mp), .slice (some ⟨nb, 0, none⟩) N N] 130 (0, 0))
  b0 : w.heap.size ≤ rb
  b1 : rb < mp
  b2 : mp < nb
  b3 : nb < xb
theorem IxSt.on {w W W' : World} {rb mp nb xb N n : Nat} {S : DataW Unit × List Int} (P : IxSt w W rb mp nb xb N n S) (k : Kept [] W W') : IxSt w W' rb mp nb xb N n S :=
  ⟨P.kept.then k, k.heap P.res (by simp), P.map.kept k (by simp), P.next.kept k (by simp), k.heap P.box (by simp), P.b0, P.b1, P.b2, P.b3⟩
theorem IxSt.setNext {w W : World} {rb mp nb xb N n : Nat} {S : DataW Unit × List Int} (P : IxSt w W rb mp nb xb N n S) (j : Nat) (v : Int) (hv : v = -1 ∨ (0 ≤ v ∧ v < N)) : IxSt w (W.setCell ⟨nb, j, none⟩ (.int .i64 v)) rb mp nb xb N n (S.1, S.2.set j v) := by
  have k : Kept [nb] W (W.setCell ⟨nb, j, none⟩ (.int .i64 v)) := (Kept.refl [nb] W).setCell (p := ⟨nb, j, none⟩) (Or.inl (by simp)) _
  obtain ⟨p1, p2, p3, p4, p5, b0, b1, b2, b3⟩ := P
  exact ⟨p1.trans k (by simp; omega), k.heap p2 (by simp; omega), p3.kept k (by simp; omega), p4.set j v hv, k.heap p5 (by simp; omega), b0, b1, b2, b3⟩
theorem IxSt.put {w W W' : World} {rb mp nb xb N n n' : Nat} {S : DataW Unit × List Int} {D : DataW Unit} (P : IxSt w W rb mp nb xb N n S) (k : Kept [mp] W W') (hm : IdxMapN W' mp N n' D) : IxSt w W' rb mp nb xb N n' (D, S.2) := by
  obtain ⟨p1, p2, p3, p4, p5, b0, b1, b2, b3⟩ := P
  exact ⟨p1.trans k (by simp; omega), k.heap p2 (by simp; omega), hm, p4.kept k (by simp; omega), k.heap p5 (by simp; omega), b0, b1, b2, b3⟩
theorem IxSt.cells {w W : World} {rb mp nb xb N n : Nat} {S : DataW Unit × List Int} (P : IxSt w W rb mp nb xb N n S) : (∀ o, W.cell? ⟨xb, o, none⟩ = #[Value.map (some mp), .slice (some ⟨nb, 0, none⟩) N N][o]?) := fun _ => cell_of_row _ _ _ _ _ _ P.box
theorem next_zero (W : World) (N : Nat) : NextAt (W.alloc (.cells (madeCells #[.int .i64 0] N) 3)) W.heap.size N (List.replicate N 0) := by
  refine ⟨by simp, fun v hv => ?_, ?_⟩
  · obtain ⟨h1, rfl⟩ := List.mem_replicate.1 hv
    exact Or.inr ⟨Int.le_refl _, by omega⟩
  · rw [heap_alloc_new]
    have e : madeCells #[Value.int .i64 0] N = ((List.replicate N (0 : Int)).map (Value.int .i64)).toArray := by
      rw [List.map_replicate, ← toList_madeCells_one (z := Value.int .i64 0)]
    rw [e]

structure IxTo (w w' : World) (N : Nat) (S : DataW Unit × List Int) (e : Ending) : Prop where
  kept : Kept [] w w'
  ends : ∃ b nb, e = .returned (.agg #[.map (some b), .slice (some ⟨nb, 0, none⟩) N N]) ∧ IdxMap w' b N S.1 ∧ NextAt w' nb N S.2 ∧ w.heap.size ≤ b ∧ w.heap.size ≤ nb

set_option maxRecDepth 100000 in
set_option maxHeartbeats 1000000 in
theorem indexed_any {w : World} {ao : Option Addr} {cap : Nat} {bs : List Int} (h : BytesAt w (.slice ao bs.length cap) bs) (ho : Octs bs) (hs : bs.length ≤ 65536) :
    Calls Try.prog 89 #[.slice ao bs.length cap] w fun e w' => IxTo w w' bs.length (ixL bs) e := by
  have hmm : ∀ W : World, (Instr.makeMap 128 none).run Try.prog W = .ok (.map (some W.heap.size)) (W.alloc (.map #[] 0)) := fun W => by kernel_rfl
  have hmk := run_make_row' (P := Try.prog) 37 3 (.int .i64 0) 8 Try.underlying37 (by kernel_rfl) rfl .i64 .i64 bs.length (by omega) (by omega)
  have HB : Hid (∀ W, Kept [] w W → BytesAt W (.slice ao bs.length cap) bs) := fun W k => h.kept k (fun _ _ => by simp)
  have hw0 : IntKind.i64.wrap ((bs.length : Int) - 4) = bs.length - 4 := by rw [IntKind.wrap_i64]; omega
  clear h
  go_enter Try.func89, Try.ntmps89
  go_wp2
  have P0 : IxSt w ((((w.alloc (.cells #[.map none, .slice none 0 0] 130)).alloc (.map #[] 0)).alloc (.cells (madeCells #[.int .i64 0] bs.length) 3)).alloc (.cells #[.map (some (w.heap.size + 1)), .slice (some ⟨w.heap.size + 1 + 1, 0, none⟩) bs.length bs.length] 130))
      w.heap.size (w.heap.size + 1) (w.heap.size + 1 + 1) (w.heap.size + 1 + 1 + 1) bs.length 0 (ixAt bs 0) := by
    have k1 : ∀ (W : World) (o : Obj), Kept [] W (W.alloc o) := fun W o => (Kept.refl _ _).alloc o
    refine ⟨((((Kept.refl [] w).alloc _).alloc _).alloc _).alloc _, ?_, ?_, ?_, ?_, Nat.le_refl _, by omega, by omega, by omega⟩
    · exact (((k1 _ _).then (k1 _ _)).then (k1 _ _)).heap (heap_alloc_new w _) (by simp)
    · have h1 := World.ownsMap_made (H := Unit) (w.alloc (.cells #[.map none, .slice none 0 0] 130)) Try.prog 171 (inR (max bs.length 1))
      have h2 : IdxMapN ((w.alloc (.cells #[.map none, .slice none 0 0] 130)).alloc (.map #[] 0)) (w.heap.size + 1) bs.length 0 (.map []) := ⟨by rw [World.size_alloc] at h1; exact h1, fun _ => rfl⟩
      exact h2.kept ((k1 _ _).then (k1 _ _)) (by simp)
    · have h1 := next_zero ((w.alloc (.cells #[.map none, .slice none 0 0] 130)).alloc (.map #[] 0)) bs.length
      rw [World.size_alloc, World.size_alloc] at h1
      exact h1.kept (k1 _ _) (by simp)
    · have h1 := heap_alloc_new (((w.alloc (.cells #[.map none, .slice none 0 0] 130)).alloc (.map #[] 0)).alloc (.cells (madeCells #[.int .i64 0] bs.length) 3)) (.cells #[.map (some (w.heap.size + 1)), .slice (some ⟨w.heap.size + 1 + 1, 0, none⟩) bs.length bs.length] 130)
      rw [World.size_alloc, World.size_alloc, World.size_alloc] at h1
      exact h1
  have HP0 : Hid _ := P0
  clear P0 hmm hmk
  generalize w.heap.size + 1 + 1 + 1 = xb at *
  generalize w.heap.size + 1 + 1 = nb at *
  generalize w.heap.size + 1 = mp at *
  have hcutA : ∀ (ao : Option Addr) (cap lo : Nat), (if cap = lo then ao else Option.map (fun x => x.add lo) ao) = cutA ao cap lo := fun _ _ _ => rfl
  go_loopw [4] (fun s4 wr => ∃ (p : Int) (n : Nat) (S : DataW Unit × List Int), s4 = .int .i64 p ∧ (p + n ≤ (bs.length : Int) - 4 ∧ (bs.length : Int) - 4 ≤ p + n) ∧ -4 ≤ p ∧ n + (p + 1).toNat ≤ bs.length ∧ (-1 ≤ p ∨ n = 0) ∧ Hid (IxSt w wr w.heap.size mp nb xb bs.length n S ∧ S = ixAt bs n)) (fun s4 _ => (intOf s4 + 1).toNat)
  case atStart => exact ⟨_, 0, ixAt bs 0, rfl, by omega, by omega, by omega, Or.inr rfl, HP0.out, rfl⟩
  case round =>
    clear HP0
    obtain ⟨p, n, ⟨D, l⟩, rfl, hp1, hp2, hpn, hp3, HPS⟩ := hrel
    have HP : Hid (IxSt w wr w.heap.size mp nb xb bs.length n (D, l)) := HPS.out.1
    have HS : Hid ((D, l) = ixAt bs n) := HPS.out.2
    clear HPS
    by_cases hp0 : 0 ≤ p
    · obtain ⟨k, rfl⟩ := Int.eq_ofNat_of_zero_le hp0
      have t1 : decide (0 ≤ (k : Int)) = true := by simp
      have l1 : (bs.drop k).length = bs.length - k := by simp
      have HF : Hid (∀ W, IxSt w W w.heap.size mp nb xb bs.length n (D, l) → ∀ q, Calls Try.prog 109 #[.agg #[.map (some mp), .slice (some ⟨nb, 0, none⟩) bs.length bs.length], .slice (cutA ao cap k) (bs.length - k) (cap - k)] (W.drewN q) fun e w' => FindTo (W.drewN q) w' D (bs.drop k) e) := by
        intro W P q
        have e1 := bytes_tail (HB.out _ ((P.on ((Kept.refl [] W).drewN q)).kept)) k (by omega)
        rw [← l1] at e1 ⊢
        exact find_any ((P.on ((Kept.refl [] W).drewN q)).map.all (by omega)) e1 (octs_drop ho k)
      have hf := HF.out _ HP.out
      have q0 : (0 : Int) ≤ k := by omega
      have q1 : (k : Int) ≤ bs.length := by omega
      have q2 : (k : Int) < bs.length := by omega
      have c0 := HP.out.cells
      obtain ⟨x0, e0, f0⟩ := HP.out.next.cell' k (by omega)
      have HFd : Hid (findD D (bs.drop k) = -1 ∨ (0 ≤ findD D (bs.drop k) ∧ findD D (bs.drop k) < bs.length)) := (HP.out.map.all (by omega)).found (octs_drop ho k)
      obtain ⟨r, hr⟩ : ∃ r, findD D (bs.drop k) = r := ⟨_, rfl⟩
      have HRR : Hid (findD D (bs.drop k) = r) := hr
      clear hr
      go_wp2_with fail
      go_cut [] from 17 to 26 (fun wx => Hid (IxSt w wx w.heap.size mp nb xb bs.length n (D, l.set k r)))
      case first =>
        go_region_with (go_at_call 109; refine (hf _).mono ?_; rintro e w2 ⟨k2, he⟩; rw [HRR.out] at he; subst he; have P2 := HP.out.on k2.undrewN; have c2 := P2.cells; obtain ⟨x2, e2, f2⟩ := P2.next.cell' k (by omega); have HP3 : Hid (IxSt w (w2.setCell ⟨nb, k, none⟩ (.int .i64 r)) w.heap.size mp nb xb bs.length n (D, l.set k r)) := P2.setNext k r (by have h := HFd.out; rw [HRR.out] at h; exact h); clear P2 k2)
        all_goals (go_wp2_with fail; go_meet; exact HP3.out)
      case rest =>
      have HP3 : Hid (IxSt w wc w.heap.size mp nb xb bs.length n (D, l.set k r)) := hcut
      clear hcut hf HF HP c0 e0 f0
      obtain ⟨y0, y1, y2, y3, rr, hdr⟩ : ∃ y0 y1 y2 y3 r, bs.drop k = y0 :: y1 :: y2 :: y3 :: r := by
        match hd : bs.drop k, l1 with
        | y0 :: y1 :: y2 :: y3 :: r, _ => exact ⟨y0, y1, y2, y3, r, rfl⟩
        | [], l1 => simp at l1; omega
        | [_], l1 => simp at l1; omega
        | [_, _], l1 => simp at l1; omega
        | [_, _, _], l1 => simp at l1; omega
      have hod : Octs (y0 :: y1 :: y2 :: y3 :: rr) := by rw [← hdr]; exact octs_drop ho k
      have hkl := key_piece (hod y0 (by simp)) (hod y1 (by simp)) (hod y2 (by simp)) (hod y3 (by simp))
      have HKA : Hid (keyAt (bs.drop k) = keyP y0 y1 y2 y3) := by rw [hdr]; rfl
      have hpc := fun q => pieceOf_any (n := bs.length - k) (cap := cap - k) (ao := cutA ao cap k) (by
        have e1 := bytes_tail (HB.out _ ((HP3.out.on ((Kept.refl [] wc).drewN q)).kept)) k (by omega)
        rw [hdr] at e1
        exact e1) (by omega)
      have c0 := HP3.out.cells
      have HN5 : Hid (n ≤ 65536) := (by omega : n ≤ 65536)
      have HKL : Hid _ := hkl
      have HQ2 : Hid ((0 : Int) ≤ (k : Int) ∧ (k : Int) < bs.length) := ⟨q0, q2⟩
      clear hkl hod hdr
      go_wp2_with fail
      have hw1 : IntKind.i64.wrap ((k : Int) - 1) = k - 1 := by rw [IntKind.wrap_i64]; omega
      go_region_with (go_at_call 110; refine (hpc _).mono ?_; rintro e w4 ⟨rfl, k4⟩; have P4 := HP3.out.on k4.undrewN; have c4 := P4.cells; obtain ⟨w5, hrun, hm5, k5⟩ := P4.map.put HN5.out HQ2.out HKL.out; have HP5 : Hid (IxSt w w5 w.heap.size mp nb xb bs.length (n + 1) (ixAt bs (n + 1))) := (by have h := P4.put k5 hm5; rw [← HKA.out, ← HRR.out] at h; have e : bs.length - 4 - n = k := (by omega); show IxSt w w5 w.heap.size mp nb xb bs.length (n + 1) (ixStep bs (ixAt bs n) (bs.length - 4 - n)); rw [e, ← HS.out]; exact h); clear P4 k4 hm5 k5)
      all_goals go_wp2
      all_goals go_roundw
      all_goals first
        | exact ⟨_, n + 1, _, rfl, by omega, by omega, by omega, by omega, HP5.out, rfl⟩
        | (simp [intOf])
    · have t1 : decide (0 ≤ p) = false := by simp; omega
      have c0 := HP.out.cells
      obtain ⟨q1, q2, q3⟩ := own_facts HP.out.res
      have HF : Hid (∀ a b, Kept [w.heap.size] wr ((wr.setCell ⟨w.heap.size, 0, none⟩ a).setCell ⟨w.heap.size, 1, none⟩ b)) := fun a b => ((Kept.refl [w.heap.size] wr).setCell (p := ⟨w.heap.size, 0, none⟩) (Or.inl (by simp)) a).setCell (p := ⟨w.heap.size, 1, none⟩) (Or.inl (by simp)) b
      go_wp2
      have hS : ixL bs = (D, l) := by
        have e : bs.length - 3 = n := by omega
        unfold ixL
        rw [e]
        exact HS.out.symm
      have hb1 := HP.out.b1
      have hb2 := HP.out.b2
      exact bodyPost_ret (v := .agg #[.map (some mp), .slice (some ⟨nb, 0, none⟩) bs.length bs.length]) (by simp [results, Try.results89, go_sem, q1]) rfl ⟨HP.out.kept.trans (HF.out _ _) (by simp), mp, nb, rfl, (by rw [hS]; exact (HP.out.map.all (by omega)).kept (HF.out _ _) (by simp; omega)), (by rw [hS]; exact HP.out.next.kept (HF.out _ _) (by simp; omega)), by omega, by omega⟩
end Go.Proofs.Ytldhbcppnoldiaa
