/-
  WALKS: Guess.number, Guess.text of satchelref3.
  GUESS of satchelref3: the object on the way; WALK: satchelref3.guess of a tag.
-/
import Derived.Test.YtnfbiemmdaenpaaDoorGs0
import Derived.Test.YtnfbiemmdaenpaaDoorRows0
import Derived.Test.YtnfbiemmdaenpaaDoorRCopy
import Derived.Deep.CutRange
import Derived.Test.YtnfbiemmdaenpaaDoorPar0
import Derived.Test.YtnfbiemmdaenpaaDoorOxO
namespace Go.Proofs.YtnfbiemmdaenpaaDoor
open Go.RowKit

/-- A number guessed: it, and how many bytes were asked for. -/
def numG (xs : List Int) (p : Nat) : Int × Nat :=
  if xAt xs p < 128 then (xAt xs p % 128, 1)
  else if xAt xs (p + 1) < 128 then (xAt xs p % 128 + 128 * (xAt xs (p + 1) % 128), 2)
  else (xAt xs p % 128 + 128 * (xAt xs (p + 1) % 128) + 16384 * (xAt xs (p + 2) % 128), 3)
theorem numG_bound (xs : List Int) (p : Nat) : 0 ≤ (numG xs p).1 ∧ (numG xs p).1 ≤ 2097151 := by
  unfold numG
  split
  · omega
  · split <;> omega

set_option maxRecDepth 100000 in
set_option maxHeartbeats 2000000 in
theorem gnum_any {w : World} {g : Nat} {v : Value} {xs : List Int} {p : Nat} (G : GAt w g v xs p) :
    Calls Tryd.prog 50 #[.pointer (some ⟨g, 0, none⟩)] w fun e w' => e = .returned (.int .i64 (numG xs p).1) ∧ GAt w' g v xs (plus xs p (numG xs p).2) ∧ Kept [g] w w' := by
  have HO : Hid (Octs xs) := G.oct
  have HG : Hid (GAt w g v xs p) := G
  obtain ⟨R, hR⟩ : ∃ R, R = numG xs p := ⟨_, rfl⟩
  rw [← hR]
  have HR : Hid (R = numG xs p) := hR
  clear G hR
  have HX : Hid (∀ q, 0 ≤ xAt xs q ∧ xAt xs q ≤ 255) := fun q => xAt_oct HO.out q
  go_enter Tryd.func50, Tryd.ntmps50
  go_wp2
  go_loopw [3, 4, 5] (fun s3 s4 s5 wr => ∃ (k : Nat) (n u : Int), k ≤ 3 ∧ s5 = .int .i64 k ∧ s3 = .int .i64 n ∧ s4 = .int .i64 u ∧ 0 ≤ n ∧ n ≤ 2097151 ∧ 1 ≤ u ∧ u ≤ 2097152 ∧
      Hid ((k = 0 ∧ n = 0 ∧ u = 1) ∨ (k = 1 ∧ u = 128 ∧ n = xAt xs p % 128 ∧ 128 ≤ xAt xs p) ∨ (k = 2 ∧ u = 16384 ∧ n = xAt xs p % 128 + 128 * (xAt xs (p + 1) % 128) ∧ 128 ≤ xAt xs p ∧ 128 ≤ xAt xs (p + 1)) ∨ (k = 3 ∧ R = (n, 3))) ∧
      Hid (GAt wr g v xs (plus xs p k)) ∧ Hid (Kept [g] w wr)) (fun _ _ s5 _ => 3 - (intOf s5).toNat)
  case atStart => exact ⟨0, 0, 1, by omega, rfl, rfl, rfl, by omega, by omega, by omega, by omega, Or.inl ⟨rfl, rfl, rfl⟩, by rw [show plus xs p 0 = p by have := HG.out.le; unfold plus; omega]; exact HG, Kept.refl _ _⟩
  case round =>
    obtain ⟨k, n, u, hk, rfl, rfl, rfl, n0, n1, u0, u1, HC, HGk, HK⟩ := hrel
    by_cases hlt : k < 3
    · have t1 : decide ((k : Int) < 3) = true := decide_eq_true (by omega)
      have h1 := one_any HGk.out
      rw [plus_plus, xAt_plus] at h1
      have hxo := HX.out (p + k)
      obtain ⟨x, hx⟩ : ∃ x, x = xAt xs (p + k) := ⟨_, rfl⟩
      rw [← hx] at h1 hxo
      have HXK : Hid (x = xAt xs (p + k)) := hx
      clear hx HGk
      obtain ⟨r, hr⟩ : ∃ r, r = x % 128 := ⟨_, rfl⟩
      have hr0 : 0 ≤ r ∧ r ≤ 127 := by omega
      have htm : Int.tmod x 128 = r := by rw [Int.tmod_eq_emod_of_nonneg hxo.1, hr]
      have hub : u ≤ 16384 := by
        rcases HC.out with h | h | h | h
        · omega
        · omega
        · omega
        · omega
      have hur : 0 ≤ u * r ∧ u * r ≤ 2080768 := by
        refine ⟨Int.mul_nonneg (by omega) hr0.1, ?_⟩
        calc u * r ≤ 16384 * r := Int.mul_le_mul_of_nonneg_right hub hr0.1
          _ ≤ 16384 * 127 := Int.mul_le_mul_of_nonneg_left hr0.2 (by decide)
      have hnb : n + u * r ≤ 2097151 := by
        rcases HC.out with ⟨_, h2, h3⟩ | ⟨_, h2, h3, _⟩ | ⟨_, h2, h3, _⟩ | ⟨h, _⟩
        · subst h2 h3; omega
        · have := HX.out p
          rw [h2] at hur ⊢
          omega
        · have := HX.out p
          have := HX.out (p + 1)
          rw [h2] at hur ⊢
          omega
        · omega
      have HRr : Hid (r = x % 128) := hr
      obtain ⟨m, hm⟩ : ∃ m, m = u * r := ⟨_, rfl⟩
      have HM : Hid (m = u * r) := hm
      rw [← hm] at hur hnb
      have hmm : u * r = m := hm.symm
      have hwr : IntKind.i64.wrap r = r := by rw [IntKind.wrap_i64]; omega
      have hwm : IntKind.i64.wrap m = m := by rw [IntKind.wrap_i64]; omega
      have hwn : IntKind.i64.wrap (n + m) = n + m := by rw [IntKind.wrap_i64]; omega
      have hwu : IntKind.i64.wrap (u * 128) = u * 128 := by rw [IntKind.wrap_i64]; omega
      clear hr hm
      by_cases hx128 : x < 128
      · have t2 : decide (x < 128) = true := decide_eq_true hx128
        have HRf : Hid (R = (n + m, k + 1)) := by
          show _ = _
          rw [HR.out, HM.out, HRr.out]
          have e := HXK.out
          rcases HC.out with ⟨h1, h2, h3⟩ | ⟨h1, h2, h3, h4⟩ | ⟨h1, h2, h3, h4, h5⟩ | ⟨h, _⟩
          · subst h1 h2 h3
            rw [Nat.add_zero] at e
            unfold numG
            rw [← e, if_pos hx128]
            simp
          · subst h1 h2
            unfold numG
            rw [if_neg (by omega), ← e, if_pos hx128, h3]
          · subst h1 h2
            unfold numG
            rw [if_neg (by omega), if_neg (by omega), ← e, h3]
          · omega
        go_wp2_with (go_at_call 49; refine h1.mono ?_; rintro e w1 ⟨rfl, g1, k1⟩; have HG1 : Hid (GAt w1 g v xs (plus xs p (k + 1))) := g1; have HK1 : Hid (Kept [g] w w1) := Kept.trans HK.out k1 (fun x hx => Or.inl hx); clear g1 k1)
        go_ret
        have e := HRf.out
        subst e
        exact ⟨rfl, HG1.out, HK1.out⟩
      · have t2 : decide (x < 128) = false := decide_eq_false hx128
        have HC' : Hid ((k + 1 = 0 ∧ n + m = 0 ∧ u * 128 = 1) ∨ (k + 1 = 1 ∧ u * 128 = 128 ∧ n + m = xAt xs p % 128 ∧ 128 ≤ xAt xs p) ∨ (k + 1 = 2 ∧ u * 128 = 16384 ∧ n + m = xAt xs p % 128 + 128 * (xAt xs (p + 1) % 128) ∧ 128 ≤ xAt xs p ∧ 128 ≤ xAt xs (p + 1)) ∨ (k + 1 = 3 ∧ R = (n + m, 3))) := by
          have e := HXK.out
          have e2 := HM.out
          have e3 := HRr.out
          rcases HC.out with ⟨h1, h2, h3⟩ | ⟨h1, h2, h3, h4⟩ | ⟨h1, h2, h3, h4, h5⟩ | ⟨h, _⟩
          · subst h1 h2 h3
            rw [Nat.add_zero] at e
            refine Or.inr (Or.inl ⟨rfl, rfl, ?_, ?_⟩)
            · rw [e2, e3, e]; omega
            · rw [← e]; omega
          · subst h1 h2
            refine Or.inr (Or.inr (Or.inl ⟨rfl, rfl, ?_, h4, ?_⟩))
            · rw [e2, e3, e, h3]
            · rw [← e]; omega
          · subst h1 h2
            refine Or.inr (Or.inr (Or.inr ⟨rfl, ?_⟩))
            rw [HR.out]
            unfold numG
            rw [if_neg (by omega), if_neg (by omega), e2, e3, e, h3]
          · omega
        go_wp2_with (go_at_call 49; refine h1.mono ?_; rintro e w1 ⟨rfl, g1, k1⟩; have HG1 : Hid (GAt w1 g v xs (plus xs p (k + 1))) := g1; have HK1 : Hid (Kept [g] w w1) := Kept.trans HK.out k1 (fun x hx => Or.inl hx); clear g1 k1)
        go_roundw
        case rel => exact ⟨k + 1, n + m, u * 128, by omega, by go_num, by go_num, by go_num, by omega, by omega, by omega, by omega, HC', HG1, HK1⟩
        case measure => simp [intOf]; omega
    · have t1 : decide ((k : Int) < 3) = false := decide_eq_false (by omega)
      have HE : Hid (k = 3 ∧ R = (n, 3)) := by
        rcases HC.out with h | h | h | h
        · omega
        · omega
        · omega
        · exact h
      go_wp2
      go_ret
      obtain ⟨e, e2⟩ := HE.out
      subst e e2
      exact ⟨rfl, HGk.out, HK.out⟩

/-- A text guessed: where it begins, where it ends. -/
def txtP (xs : List Int) (p : Nat) : Nat := plus xs p (numG xs p).2
def txtN (xs : List Int) (p : Nat) : Nat := min (numG xs p).1.toNat (xs.length - txtP xs p)
def txtG (xs : List Int) (p : Nat) : List Int := (xs.drop (txtP xs p)).take (txtN xs p)
def txtE (xs : List Int) (p : Nat) : Nat := txtP xs p + txtN xs p
theorem txtE_le (xs : List Int) (p : Nat) : txtE xs p ≤ xs.length := by
  have := plus_le xs p (numG xs p).2
  unfold txtE txtN txtP
  omega
theorem txtG_len (xs : List Int) (p : Nat) : (txtG xs p).length = txtN xs p := by
  unfold txtG
  rw [List.length_take, List.length_drop]
  unfold txtN
  omega

set_option maxRecDepth 100000 in
set_option maxHeartbeats 2000000 in
theorem gtext_any {w : World} {g : Nat} {v : Value} {xs : List Int} {p : Nat} (G : GAt w g v xs p) :
    Calls Tryd.prog 51 #[.pointer (some ⟨g, 0, none⟩)] w fun e w' => e = .returned (.string (strOfNums (txtG xs p))) ∧ GAt w' g v xs (txtE xs p) ∧ Kept [g] w w' := by
  have hnum := gnum_any G
  have hb := numG_bound xs p
  have hlen := G.len
  rw [show plus xs p (numG xs p).2 = txtP xs p from rfl] at hnum
  have hpl : txtP xs p ≤ xs.length := plus_le _ _ _
  obtain ⟨ao, cap, rfl, hcap, hnil, _⟩ := G.bytes
  clear G
  obtain ⟨n, hn⟩ : ∃ n : Nat, (numG xs p).1 = (n : Int) := ⟨(numG xs p).1.toNat, by omega⟩
  have HN : Hid (txtN xs p = min n (xs.length - txtP xs p)) := by show _ = _; unfold txtN; rw [hn]; rfl
  rw [hn] at hnum hb
  have HG0 : Hid (txtG xs p = (xs.drop (txtP xs p)).take (txtN xs p)) := rfl
  have HE0 : Hid (txtE xs p = txtP xs p + txtN xs p) := rfl
  generalize txtG xs p = T at *
  generalize txtE xs p = E at *
  generalize txtN xs p = m at *
  generalize txtP xs p = q at *
  clear hn
  go_enter Tryd.func51, Tryd.ntmps51
  go_wp2_with fail
  go_at_call 50
  refine hnum.mono ?_
  rintro e w1 ⟨rfl, G1, k1⟩
  clear hnum
  have hfz : w1.frozen? ⟨g, 1, none⟩ = false := frozen_of_row w1 g _ _ _ G1.box
  have d0 : w1.cell? ⟨g, 0, none⟩ = some (.slice ao xs.length cap) := by rw [cell_of_row _ _ _ _ _ _ G1.box]; rfl
  have d1 : w1.cell? ⟨g, 1, none⟩ = some (.int .i64 (q : Int)) := by rw [cell_of_row _ _ _ _ _ _ G1.box]; rfl
  have HG1 : Hid (GAt w1 g (.slice ao xs.length cap) xs q) := G1
  have HK1 : Hid (Kept [g] w w1) := k1
  clear G1 k1
  have hmn : m = min n (xs.length - q) := HN.out
  have hcut : ∀ (ao : Option Addr) (cap lo : Nat), (if cap = lo then ao else Option.map (fun x => x.add lo) ao) = cutA ao cap lo := fun _ _ _ => rfl
  have HD : Hid (∀ k, (w1.drewN k).cell? ⟨g, 0, none⟩ = some (.slice ao xs.length cap) ∧ (w1.drewN k).cell? ⟨g, 1, none⟩ = some (.int .i64 (q : Int))) := fun k => ⟨d0, d1⟩
  have hcv := fun k => (bytes_cut (w := w1.drewN k) ((HG1.out.kept (T := []) ((Kept.refl [] w1).drewN k) (by simp) (fun _ _ _ => by simp)).bytes) q m (by omega)).1.conv
  rw [← HG0.out] at hcv
  have hqm : IntKind.i64.wrap ((q : Int) + (m : Int)) = (q : Int) + (m : Int) := by rw [IntKind.wrap_i64]; omega
  have hle1 : q + m ≤ xs.length := by omega
  have HPut : Hid (∀ W, Kept [] w1 W → GAt (W.setCell ⟨g, 1, none⟩ (.int .i64 ((q : Int) + (m : Int)))) g (.slice ao xs.length cap) xs E ∧ Kept [g] w (W.setCell ⟨g, 1, none⟩ (.int .i64 ((q : Int) + (m : Int))))) := fun W k => by
    have G2 := HG1.out.kept k (by simp) (fun _ _ _ => by simp)
    obtain ⟨a, b⟩ := G2.put (q := q + m) hle1
    rw [show ((q + m : Nat) : Int) = (q : Int) + (m : Int) from rfl] at a b
    rw [HE0.out]
    exact ⟨a, (HK1.out.trans k (by simp)).trans b (fun x hx => Or.inl hx)⟩
  generalize hSS : strOfNums T = SS at *
  have HSS : Hid (strOfNums T = SS) := hSS
  clear hSS
  have hc1 : q ≤ xs.length := hpl
  by_cases hgt : xs.length < q + n
  · have hw1 : IntKind.i64.wrap ((xs.length : Int) - (q : Int)) = (m : Int) := by rw [IntKind.wrap_i64]; omega
    have t1 : decide ((m : Int) < (n : Int)) = true := decide_eq_true (by omega)
    have t2 : m < n := by omega
    clear HN HG0 HE0 hmn
    go_wp2
    go_quiet (fail)
    go_wp2
    go_quiet (fail)
    go_wp2
    go_quiet (fail)
    go_wp2
    go_ret
    exact ⟨by first | rfl | (rw [HSS.out]; rfl), HPut.out _ ((Kept.refl [] w1).drewN _)⟩
  · obtain ⟨r, hr⟩ : ∃ r : Nat, r = xs.length - q := ⟨_, rfl⟩
    have hw1 : IntKind.i64.wrap ((xs.length : Int) - (q : Int)) = (r : Int) := by rw [IntKind.wrap_i64]; omega
    have hnm : n = m := by omega
    subst hnm
    have t1 : decide ((r : Int) < (n : Int)) = false := decide_eq_false (by omega)
    have t2 : ¬ r < n := by omega
    clear HN HG0 HE0 hmn hr
    go_wp2
    go_quiet (fail)
    go_wp2
    go_quiet (fail)
    go_wp2
    go_ret
    exact ⟨by first | rfl | (rw [HSS.out]; rfl), HPut.out _ ((Kept.refl [] w1).drewN _)⟩
end Go.Proofs.YtnfbiemmdaenpaaDoor

namespace Go.Proofs.YtnfbiemmdaenpaaDoor
open Go.RowKit

/-- guess between its steps: the answer's place, the Guess, the object. -/
structure Gu (w W : World) (ob : Nat) (v : Value) (xs : List Int) (p : Nat) (o : ObjL) : Prop where
  res : W.heap[w.heap.size]? = some (.cells Tryd.zeroCells33 33 (0, 0))
  gat : GAt W (w.heap.size + 1) v xs p
  blk : W.heap[ob]? = some (.cells o.row.toArray 33 (0, 0))
  kp : Kept [] w W
  lo : w.heap.size + 1 + 1 ≤ ob
  vb : xs ≠ [] → ∀ b, blkOf v = some b → b < w.heap.size
section
variable {w W W1 : World} {ob : Nat} {v : Value} {xs : List Int} {p q : Nat} {o o' : ObjL}
theorem Gu.next (h : Gu w W ob v xs p o) (k : Kept [w.heap.size + 1] W W1) (g : GAt W1 (w.heap.size + 1) v xs q) : Gu w W1 ob v xs q o :=
  ⟨k.heap h.res (by simp), g, k.heap h.blk (by have := h.lo; simp; omega), h.kp.trans k (fun x hx => Or.inr (by rw [List.mem_singleton.1 hx]; omega)), h.lo, h.vb⟩
theorem Gu.other (h : Gu w W ob v xs p o) (k : Kept [ob] W W1) (hr : W1.heap[ob]? = some (.cells o'.row.toArray 33 (0, 0))) : Gu w W1 ob v xs p o' := by
  have hlo := h.lo
  exact ⟨k.heap h.res (by simp; omega), h.gat.kept k (by simp; omega) (fun hne b hb e => by have := h.vb hne b hb; simp at e; omega), hr, h.kp.trans k (fun x hx => Or.inr (by rw [List.mem_singleton.1 hx]; omega)), hlo, h.vb⟩
theorem Gu.on (h : Gu w W ob v xs p o) (k : Kept [] W W1) : Gu w W1 ob v xs p o :=
  ⟨k.heap h.res (by simp), h.gat.kept k (by simp) (fun _ _ _ => by simp), k.heap h.blk (by simp), h.kp.then k, h.lo, h.vb⟩
theorem Gu.put (h : Gu w W ob v xs p o) {i : Nat} {c : Value} (hr : o.row.toArray.setIfInBounds i c = o'.row.toArray) : Gu w (W.setCell ⟨ob, i, none⟩ c) ob v xs p o' := by
  refine h.other (by rw [setCell_eq_setRow W _ i _ _ _ c h.blk]; exact ⟨rfl, rfl, rfl, by simp [World.setRow], fun j _ hn => setRow_other W _ j _ (fun e => hn (by simp [e]))⟩) ?_
  rw [setCell_eq_setRow W _ i _ _ _ c h.blk, setRow_heap W _ _ _ _ _ h.blk, hr]
theorem Gu.putRow (h : Gu w W ob v xs p o) {i : Nat} {cs : List Value} (hi : i + cs.length ≤ o.row.length) (hr : putL o.row i cs = o'.row) : Gu w (W.setCells ob i cs) ob v xs p o' := by
  refine h.other (Kept.setCells ob (Or.inl (by simp)) cs i W (Kept.refl _ _)) ?_
  rw [setCells_heap ob _ cs i W _ h.blk, setL_put _ _ _ hi, hr]
theorem Gu.cell (h : Gu w W ob v xs p o) {i : Nat} (hi : i < o.row.length) : (∃ c, W.cell? ⟨ob, i, none⟩ = some c) ∧ W.frozen? ⟨ob, i, none⟩ = false := by
  refine ⟨⟨o.row[i], ?_⟩, frozen_of_row W _ _ _ _ h.blk⟩
  rw [cell_of_row _ _ _ _ _ _ h.blk, List.getElem?_toArray, List.getElem?_eq_getElem hi]
theorem Gu.there (h : Gu w W ob v xs p o) {i n : Nat} (hi : i + n ≤ o.row.length) : W.there ob i n := fun j hj => by
  have hij : i + j < o.row.length := by omega
  refine ⟨?_, frozen_of_row W _ _ _ _ h.blk⟩
  rw [cell_of_row _ _ _ _ _ _ h.blk, List.getElem?_toArray, List.getElem?_eq_getElem hij]
  rfl
end

theorem set_tag (o : ObjL) (hc : o.com.tree.length = 32) (i : Nat) (c : Value) : o.row.toArray.setIfInBounds (39 + i) c = ([Value.int .i64 o.kind, o.bv, o.ev] ++ (o.com.row o.pv ++ o.tag.row.set i c)).toArray := by
  rw [List.setIfInBounds_toArray]
  unfold ObjL.row
  rw [List.set_append_right _ _ (by show 3 ≤ 39 + i; omega), show (39 + i - [Value.int .i64 o.kind, o.bv, o.ev].length) = 36 + i by show 39 + i - 3 = 36 + i; omega, List.set_append_right _ _ (by rw [com_len' _ _ hc]; omega), com_len' _ _ hc, Nat.add_sub_cancel_left]
theorem set_com (o : ObjL) (hc : o.com.tree.length = 32) (i : Nat) (hi : i < 36) (c : Value) : o.row.toArray.setIfInBounds (3 + i) c = ([Value.int .i64 o.kind, o.bv, o.ev] ++ ((o.com.row o.pv).set i c ++ o.tag.row)).toArray := by
  rw [List.setIfInBounds_toArray]
  unfold ObjL.row
  rw [List.set_append_right _ _ (by show 3 ≤ 3 + i; omega), show (3 + i - [Value.int .i64 o.kind, o.bv, o.ev].length) = i by show 3 + i - 3 = i; omega, List.set_append_left _ _ (by rw [com_len' _ _ hc]; exact hi)]
theorem set_tagL (t : TagL) (ht : t.target.length = 32) (i : Nat) (c : Value) : t.row.set (32 + i) c = t.target.map (Value.int .u8) ++ [Value.int .i64 t.kind, .string (strOfNums t.name), .string (strOfNums t.who), .int .u64 t.time, .string (strOfNums t.text)].set i c := by
  unfold TagL.row
  rw [List.set_append_right _ _ (by rw [List.length_map, ht]; omega), List.length_map, ht, Nat.add_sub_cancel_left]
theorem set_comL (t : ComL) (pv : Value) (ht : t.tree.length = 32) (i : Nat) (c : Value) : (t.row pv).set (32 + i) c = t.tree.map (Value.int .u8) ++ [pv, .string (strOfNums t.who), .int .u64 t.time, .string (strOfNums t.text)].set i c := by
  unfold ComL.row
  rw [List.set_append_right _ _ (by rw [List.length_map, ht]; omega), List.length_map, ht, Nat.add_sub_cancel_left]
theorem objL_target (o : ObjL) (x : List Int) (hc : o.com.tree.length = 32) (ht : o.tag.target.length = 32) (hx : x.length = 32) : putL o.row 39 (x.map (Value.int .u8)) = ({ o with tag := { o.tag with target := x } } : ObjL).row := by
  have e : o.row = ([Value.int .i64 o.kind, o.bv, o.ev] ++ o.com.row o.pv) ++ (o.tag.target.map (Value.int .u8) ++ [Value.int .i64 o.tag.kind, .string (strOfNums o.tag.name), .string (strOfNums o.tag.who), .int .u64 o.tag.time, .string (strOfNums o.tag.text)]) := by
    unfold ObjL.row TagL.row
    simp only [List.append_assoc]
  have h39 : ([Value.int .i64 o.kind, o.bv, o.ev] ++ o.com.row o.pv).length = 39 := by rw [List.length_append, com_len' _ _ hc]; rfl
  unfold putL
  rw [e, List.take_left' h39, List.length_map, hx]
  rw [show List.drop (39 + 32) (([Value.int .i64 o.kind, o.bv, o.ev] ++ o.com.row o.pv) ++ (o.tag.target.map (Value.int .u8) ++ [Value.int .i64 o.tag.kind, .string (strOfNums o.tag.name), .string (strOfNums o.tag.who), .int .u64 o.tag.time, .string (strOfNums o.tag.text)])) = [Value.int .i64 o.tag.kind, .string (strOfNums o.tag.name), .string (strOfNums o.tag.who), .int .u64 o.tag.time, .string (strOfNums o.tag.text)] by
    rw [← List.drop_drop, List.drop_left' h39, List.drop_left' (by rw [List.length_map, ht])]]
  unfold ObjL.row TagL.row
  simp only [List.append_assoc]
theorem objL_tree (o : ObjL) (x : List Int) (hc : o.com.tree.length = 32) (hx : x.length = 32) : putL o.row 3 (x.map (Value.int .u8)) = ({ o with com := { o.com with tree := x } } : ObjL).row := by
  have e : o.row = [Value.int .i64 o.kind, o.bv, o.ev] ++ (o.com.tree.map (Value.int .u8) ++ ([o.pv, .string (strOfNums o.com.who), .int .u64 o.com.time, .string (strOfNums o.com.text)] ++ o.tag.row)) := by
    unfold ObjL.row ComL.row
    simp only [List.append_assoc]
  unfold putL
  rw [e, List.take_left' (by rfl), List.length_map, hx]
  rw [show List.drop (3 + 32) ([Value.int .i64 o.kind, o.bv, o.ev] ++ (o.com.tree.map (Value.int .u8) ++ ([o.pv, .string (strOfNums o.com.who), .int .u64 o.com.time, .string (strOfNums o.com.text)] ++ o.tag.row))) = [o.pv, .string (strOfNums o.com.who), .int .u64 o.com.time, .string (strOfNums o.com.text)] ++ o.tag.row by
    rw [← List.drop_drop, List.drop_left' (by rfl), List.drop_left' (by rw [List.length_map, hc])]]
  unfold ObjL.row ComL.row
  simp only [List.append_assoc]
def kindO (k : Int) : ObjL := { zeroO with kind := k }
theorem built_kind (k : Int) : Tryd.prog.built 33 [(0, .int .i64 k)] = some (kindO k).row.toArray := by
  rw [Tryd.builtObj, fill_step (fun i => (#[(0, 1), (1, 1), (2, 1), (3, 36), (39, 37)] : Array (Nat × Nat))[i]?) zeroO.row.toArray 0 (.int .i64 k) _ 0 1 rfl rfl (by decide)]
  have e1 : (Value.int .i64 k).cells.toList = [.int .i64 k] := rfl
  rw [e1, setL_put _ _ _ (by show 0 + 1 ≤ zeroO.row.length; decide)]
  have e2 : putL zeroO.row 0 [.int .i64 k] = [.int .i64 k, .slice none 0 0, .slice none 0 0] ++ (zeroC.row (.slice none 0 0) ++ zeroG.row) := put0 _ _ _ _ _
  rw [e2, fill_nil]
  rfl
/-- The object as it is made first: the kind alone. -/
theorem Gu.start {w w1 : World} {v : Value} {xs : List Int} {p : Nat} {k : Int} (hv : BytesAt w v xs) (k0 : Kept [w.heap.size + 1] ((w.alloc (.cells Tryd.zeroCells33 33)).alloc (.cells #[v, .int .i64 0] 101)) w1) (g : GAt w1 (w.heap.size + 1) v xs p) :
    Gu w (w1.alloc (.cells (kindO k).row.toArray 33)) w1.heap.size v xs p (kindO k) := by
  have hk : Kept [] w1 (w1.alloc (.cells (kindO k).row.toArray 33)) := (Kept.refl _ _).alloc _
  have hr : ((w.alloc (.cells Tryd.zeroCells33 33)).alloc (.cells #[v, .int .i64 0] 101)).heap[w.heap.size]? = some (.cells Tryd.zeroCells33 33 (0, 0)) := (Below.heap_alloc _ _ _ (by rw [World.size_alloc]; omega)).trans (heap_alloc_new w _)
  have hsz : ((w.alloc (.cells Tryd.zeroCells33 33)).alloc (.cells #[v, .int .i64 0] 101)).heap.size = w.heap.size + 1 + 1 := by rw [World.size_alloc, World.size_alloc]
  have hk1 : Kept [] w w1 := (((Kept.refl [] w).alloc _).alloc _).trans k0 (fun x hx => Or.inr (by rw [List.mem_singleton.1 hx]; omega))
  refine ⟨hk.heap (k0.heap hr (by simp)) (by simp), g.kept hk (by simp) (fun _ _ _ => by simp), heap_alloc_new w1 _, hk1.then hk, by have := k0.size; omega, fun hne b hb => ?_⟩
  obtain ⟨ao, cap, rfl, _, _, hc⟩ := hv
  obtain ⟨b', off, rfl, hh⟩ := hc hne
  obtain rfl : b' = b := by simpa [blkOf] using hb
  obtain ⟨x, r, rfl⟩ : ∃ x r, xs = x :: r := by cases xs with | nil => exact absurd rfl hne | cons x r => exact ⟨x, r, rfl⟩
  exact World.block_lt_of_cell? w _ (hh 0 x rfl)
theorem GAt.start {w : World} {v : Value} {xs : List Int} (hv : BytesAt w v xs) (ho : Octs xs) (hl : xs.length ≤ 65536) :
    GAt ((w.alloc (.cells Tryd.zeroCells33 33)).alloc (.cells #[v, .int .i64 0] 101)) (w.heap.size + 1) v xs 0 := by
  have hk : Kept [] w ((w.alloc (.cells Tryd.zeroCells33 33)).alloc (.cells #[v, .int .i64 0] 101)) := ((Kept.refl _ _).alloc _).alloc _
  refine ⟨?_, hv.keep hk (fun _ _ _ => by simp), ho, Nat.zero_le _, hl, fun hne b hb => ?_⟩
  · have h := heap_alloc_new (w.alloc (.cells Tryd.zeroCells33 33)) (.cells #[v, .int .i64 0] 101)
    rw [World.size_alloc] at h
    exact h
  · obtain ⟨ao, cap, rfl, _, _, hc⟩ := hv
    obtain ⟨b', off, rfl, hh⟩ := hc hne
    obtain rfl : b' = b := by simpa [blkOf] using hb
    obtain ⟨x, r, rfl⟩ : ∃ x r, xs = x :: r := by cases xs with | nil => exact absurd rfl hne | cons x r => exact ⟨x, r, rfl⟩
    have := World.block_lt_of_cell? w _ (hh 0 x rfl)
    show b' ≠ w.heap.size + 1
    have h2 : b' < w.heap.size := this
    omega
end Go.Proofs.YtnfbiemmdaenpaaDoor
