/-
  WALKS: Guess.number, Guess.text of satchelref3.
  Entries of a tree: as cells, in memory, in lists.
-/
import Derived.Test.YtnfbiemmdaenpaaDoorGs0
import Derived.Test.YtnfbiemmdaenpaaDoorRows0
import Derived.Deep.CutRange
import Derived.Test.YtnfbiemmdaenpaaDoorObj0
import Derived.Test.YtnfbiemmdaenpaaDoorObj1
import Derived.Deep.WholeRow
namespace Go.Proofs.YtnfbiemmdaenpaaDoor
open Go.RowKit

/-- A number guessed: it, and how many bytes were asked for. -/
def numG (xs : List Int) (p : Nat) : Int × Nat :=
  if xAt xs p < 128 then (xAt xs p % 128, 1)
  else if xAt xs (p + 1) < 128 then (xAt xs p % 128 + 128 * (xAt xs (p + 1) % 128), 2)
  else (xAt xs p % 128 + 128 * (xAt xs (p + 1) % 128) + 16384 * (xAt xs (p + 2) % 128), 3)
theorem numG_bound (xs : List Int) (p : Nat) : 0 ≤ (numG xs p).1 ∧ (numG xs p).1 ≤ 2097151 := by
  unfold numG
  split
  · omega
  · split <;> omega

set_option maxRecDepth 100000 in
set_option maxHeartbeats 2000000 in
theorem gnum_any {w : World} {g : Nat} {v : Value} {xs : List Int} {p : Nat} (G : GAt w g v xs p) :
    Calls Tryd.prog 50 #[.pointer (some ⟨g, 0, none⟩)] w fun e w' => e = .returned (.int .i64 (numG xs p).1) ∧ GAt w' g v xs (plus xs p (numG xs p).2) ∧ Kept [g] w w' := by
  have HO : Hid (Octs xs) := G.oct
  have HG : Hid (GAt w g v xs p) := G
  obtain ⟨R, hR⟩ : ∃ R, R = numG xs p := ⟨_, rfl⟩
  rw [← hR]
  have HR : Hid (R = numG xs p) := hR
  clear G hR
  have HX : Hid (∀ q, 0 ≤ xAt xs q ∧ xAt xs q ≤ 255) := fun q => xAt_oct HO.out q
  go_enter Tryd.func50, Tryd.ntmps50
  go_wp2
  go_loopw [3, 4, 5] (fun s3 s4 s5 wr => ∃ (k : Nat) (n u : Int), k ≤ 3 ∧ s5 = .int .i64 k ∧ s3 = .int .i64 n ∧ s4 = .int .i64 u ∧ 0 ≤ n ∧ n ≤ 2097151 ∧ 1 ≤ u ∧ u ≤ 2097152 ∧
      Hid ((k = 0 ∧ n = 0 ∧ u = 1) ∨ (k = 1 ∧ u = 128 ∧ n = xAt xs p % 128 ∧ 128 ≤ xAt xs p) ∨ (k = 2 ∧ u = 16384 ∧ n = xAt xs p % 128 + 128 * (xAt xs (p + 1) % 128) ∧ 128 ≤ xAt xs p ∧ 128 ≤ xAt xs (p + 1)) ∨ (k = 3 ∧ R = (n, 3))) ∧
      Hid (GAt wr g v xs (plus xs p k)) ∧ Hid (Kept [g] w wr)) (fun _ _ s5 _ => 3 - (intOf s5).toNat)
  case atStart => exact ⟨0, 0, 1, by omega, rfl, rfl, rfl, by omega, by omega, by omega, by omega, Or.inl ⟨rfl, rfl, rfl⟩, by rw [show plus xs p 0 = p by have := HG.out.le; unfold plus; omega]; exact HG, Kept.refl _ _⟩
  case round =>
    obtain ⟨k, n, u, hk, rfl, rfl, rfl, n0, n1, u0, u1, HC, HGk, HK⟩ := hrel
    by_cases hlt : k < 3
    · have t1 : decide ((k : Int) < 3) = true := decide_eq_true (by omega)
      have h1 := one_any HGk.out
      rw [plus_plus, xAt_plus] at h1
      have hxo := HX.out (p + k)
      obtain ⟨x, hx⟩ : ∃ x, x = xAt xs (p + k) := ⟨_, rfl⟩
      rw [← hx] at h1 hxo
      have HXK : Hid (x = xAt xs (p + k)) := hx
      clear hx HGk
      obtain ⟨r, hr⟩ : ∃ r, r = x % 128 := ⟨_, rfl⟩
      have hr0 : 0 ≤ r ∧ r ≤ 127 := by omega
      have htm : Int.tmod x 128 = r := by rw [Int.tmod_eq_emod_of_nonneg hxo.1, hr]
      have hub : u ≤ 16384 := by
        rcases HC.out with h | h | h | h
        · omega
        · omega
        · omega
        · omega
      have hur : 0 ≤ u * r ∧ u * r ≤ 2080768 := by
        refine ⟨Int.mul_nonneg (by omega) hr0.1, ?_⟩
        calc u * r ≤ 16384 * r := Int.mul_le_mul_of_nonneg_right hub hr0.1
          _ ≤ 16384 * 127 := Int.mul_le_mul_of_nonneg_left hr0.2 (by decide)
      have hnb : n + u * r ≤ 2097151 := by
        rcases HC.out with ⟨_, h2, h3⟩ | ⟨_, h2, h3, _⟩ | ⟨_, h2, h3, _⟩ | ⟨h, _⟩
        · subst h2 h3; omega
        · have := HX.out p
          rw [h2] at hur ⊢
          omega
        · have := HX.out p
          have := HX.out (p + 1)
          rw [h2] at hur ⊢
          omega
        · omega
      have HRr : Hid (r = x % 128) := hr
      obtain ⟨m, hm⟩ : ∃ m, m = u * r := ⟨_, rfl⟩
      have HM : Hid (m = u * r) := hm
      rw [← hm] at hur hnb
      have hmm : u * r = m := hm.symm
      have hwr : IntKind.i64.wrap r = r := by rw [IntKind.wrap_i64]; omega
      have hwm : IntKind.i64.wrap m = m := by rw [IntKind.wrap_i64]; omega
      have hwn : IntKind.i64.wrap (n + m) = n + m := by rw [IntKind.wrap_i64]; omega
      have hwu : IntKind.i64.wrap (u * 128) = u * 128 := by rw [IntKind.wrap_i64]; omega
      clear hr hm
      by_cases hx128 : x < 128
      · have t2 : decide (x < 128) = true := decide_eq_true hx128
        have HRf : Hid (R = (n + m, k + 1)) := by
          show _ = _
          rw [HR.out, HM.out, HRr.out]
          have e := HXK.out
          rcases HC.out with ⟨h1, h2, h3⟩ | ⟨h1, h2, h3, h4⟩ | ⟨h1, h2, h3, h4, h5⟩ | ⟨h, _⟩
          · subst h1 h2 h3
            rw [Nat.add_zero] at e
            unfold numG
            rw [← e, if_pos hx128]
            simp
          · subst h1 h2
            unfold numG
            rw [if_neg (by omega), ← e, if_pos hx128, h3]
          · subst h1 h2
            unfold numG
            rw [if_neg (by omega), if_neg (by omega), ← e, h3]
          · omega
        go_wp2_with (go_at_call 49; refine h1.mono ?_; rintro e w1 ⟨rfl, g1, k1⟩; have HG1 : Hid (GAt w1 g v xs (plus xs p (k + 1))) := g1; have HK1 : Hid (Kept [g] w w1) := Kept.trans HK.out k1 (fun x hx => Or.inl hx); clear g1 k1)
        go_ret
        have e := HRf.out
        subst e
        exact ⟨rfl, HG1.out, HK1.out⟩
      · have t2 : decide (x < 128) = false := decide_eq_false hx128
        have HC' : Hid ((k + 1 = 0 ∧ n + m = 0 ∧ u * 128 = 1) ∨ (k + 1 = 1 ∧ u * 128 = 128 ∧ n + m = xAt xs p % 128 ∧ 128 ≤ xAt xs p) ∨ (k + 1 = 2 ∧ u * 128 = 16384 ∧ n + m = xAt xs p % 128 + 128 * (xAt xs (p + 1) % 128) ∧ 128 ≤ xAt xs p ∧ 128 ≤ xAt xs (p + 1)) ∨ (k + 1 = 3 ∧ R = (n + m, 3))) := by
          have e := HXK.out
          have e2 := HM.out
          have e3 := HRr.out
          rcases HC.out with ⟨h1, h2, h3⟩ | ⟨h1, h2, h3, h4⟩ | ⟨h1, h2, h3, h4, h5⟩ | ⟨h, _⟩
          · subst h1 h2 h3
            rw [Nat.add_zero] at e
            refine Or.inr (Or.inl ⟨rfl, rfl, ?_, ?_⟩)
            · rw [e2, e3, e]; omega
            · rw [← e]; omega
          · subst h1 h2
            refine Or.inr (Or.inr (Or.inl ⟨rfl, rfl, ?_, h4, ?_⟩))
            · rw [e2, e3, e, h3]
            · rw [← e]; omega
          · subst h1 h2
            refine Or.inr (Or.inr (Or.inr ⟨rfl, ?_⟩))
            rw [HR.out]
            unfold numG
            rw [if_neg (by omega), if_neg (by omega), e2, e3, e, h3]
          · omega
        go_wp2_with (go_at_call 49; refine h1.mono ?_; rintro e w1 ⟨rfl, g1, k1⟩; have HG1 : Hid (GAt w1 g v xs (plus xs p (k + 1))) := g1; have HK1 : Hid (Kept [g] w w1) := Kept.trans HK.out k1 (fun x hx => Or.inl hx); clear g1 k1)
        go_roundw
        case rel => exact ⟨k + 1, n + m, u * 128, by omega, by go_num, by go_num, by go_num, by omega, by omega, by omega, by omega, HC', HG1, HK1⟩
        case measure => simp [intOf]; omega
    · have t1 : decide ((k : Int) < 3) = false := decide_eq_false (by omega)
      have HE : Hid (k = 3 ∧ R = (n, 3)) := by
        rcases HC.out with h | h | h | h
        · omega
        · omega
        · omega
        · exact h
      go_wp2
      go_ret
      obtain ⟨e, e2⟩ := HE.out
      subst e e2
      exact ⟨rfl, HGk.out, HK.out⟩

/-- A text guessed: where it begins, where it ends. -/
def txtP (xs : List Int) (p : Nat) : Nat := plus xs p (numG xs p).2
def txtN (xs : List Int) (p : Nat) : Nat := min (numG xs p).1.toNat (xs.length - txtP xs p)
def txtG (xs : List Int) (p : Nat) : List Int := (xs.drop (txtP xs p)).take (txtN xs p)
def txtE (xs : List Int) (p : Nat) : Nat := txtP xs p + txtN xs p
theorem txtE_le (xs : List Int) (p : Nat) : txtE xs p ≤ xs.length := by
  have := plus_le xs p (numG xs p).2
  unfold txtE txtN txtP
  omega
theorem txtG_len (xs : List Int) (p : Nat) : (txtG xs p).length = txtN xs p := by
  unfold txtG
  rw [List.length_take, List.length_drop]
  unfold txtN
  omega

set_option maxRecDepth 100000 in
set_option maxHeartbeats 2000000 in
theorem gtext_any {w : World} {g : Nat} {v : Value} {xs : List Int} {p : Nat} (G : GAt w g v xs p) :
    Calls Tryd.prog 51 #[.pointer (some ⟨g, 0, none⟩)] w fun e w' => e = .returned (.string (strOfNums (txtG xs p))) ∧ GAt w' g v xs (txtE xs p) ∧ Kept [g] w w' := by
  have hnum := gnum_any G
  have hb := numG_bound xs p
  have hlen := G.len
  rw [show plus xs p (numG xs p).2 = txtP xs p from rfl] at hnum
  have hpl : txtP xs p ≤ xs.length := plus_le _ _ _
  obtain ⟨ao, cap, rfl, hcap, hnil, _⟩ := G.bytes
  clear G
  obtain ⟨n, hn⟩ : ∃ n : Nat, (numG xs p).1 = (n : Int) := ⟨(numG xs p).1.toNat, by omega⟩
  have HN : Hid (txtN xs p = min n (xs.length - txtP xs p)) := by show _ = _; unfold txtN; rw [hn]; rfl
  rw [hn] at hnum hb
  have HG0 : Hid (txtG xs p = (xs.drop (txtP xs p)).take (txtN xs p)) := rfl
  have HE0 : Hid (txtE xs p = txtP xs p + txtN xs p) := rfl
  generalize txtG xs p = T at *
  generalize txtE xs p = E at *
  generalize txtN xs p = m at *
  generalize txtP xs p = q at *
  clear hn
  go_enter Tryd.func51, Tryd.ntmps51
  go_wp2_with fail
  go_at_call 50
  refine hnum.mono ?_
  rintro e w1 ⟨rfl, G1, k1⟩
  clear hnum
  have hfz : w1.frozen? ⟨g, 1, none⟩ = false := frozen_of_row w1 g _ _ _ G1.box
  have d0 : w1.cell? ⟨g, 0, none⟩ = some (.slice ao xs.length cap) := by rw [cell_of_row _ _ _ _ _ _ G1.box]; rfl
  have d1 : w1.cell? ⟨g, 1, none⟩ = some (.int .i64 (q : Int)) := by rw [cell_of_row _ _ _ _ _ _ G1.box]; rfl
  have HG1 : Hid (GAt w1 g (.slice ao xs.length cap) xs q) := G1
  have HK1 : Hid (Kept [g] w w1) := k1
  clear G1 k1
  have hmn : m = min n (xs.length - q) := HN.out
  have hcut : ∀ (ao : Option Addr) (cap lo : Nat), (if cap = lo then ao else Option.map (fun x => x.add lo) ao) = cutA ao cap lo := fun _ _ _ => rfl
  have HD : Hid (∀ k, (w1.drewN k).cell? ⟨g, 0, none⟩ = some (.slice ao xs.length cap) ∧ (w1.drewN k).cell? ⟨g, 1, none⟩ = some (.int .i64 (q : Int))) := fun k => ⟨d0, d1⟩
  have hcv := fun k => (bytes_cut (w := w1.drewN k) ((HG1.out.kept (T := []) ((Kept.refl [] w1).drewN k) (by simp) (fun _ _ _ => by simp)).bytes) q m (by omega)).1.conv
  rw [← HG0.out] at hcv
  have hqm : IntKind.i64.wrap ((q : Int) + (m : Int)) = (q : Int) + (m : Int) := by rw [IntKind.wrap_i64]; omega
  have hle1 : q + m ≤ xs.length := by omega
  have HPut : Hid (∀ W, Kept [] w1 W → GAt (W.setCell ⟨g, 1, none⟩ (.int .i64 ((q : Int) + (m : Int)))) g (.slice ao xs.length cap) xs E ∧ Kept [g] w (W.setCell ⟨g, 1, none⟩ (.int .i64 ((q : Int) + (m : Int))))) := fun W k => by
    have G2 := HG1.out.kept k (by simp) (fun _ _ _ => by simp)
    obtain ⟨a, b⟩ := G2.put (q := q + m) hle1
    rw [show ((q + m : Nat) : Int) = (q : Int) + (m : Int) from rfl] at a b
    rw [HE0.out]
    exact ⟨a, (HK1.out.trans k (by simp)).trans b (fun x hx => Or.inl hx)⟩
  generalize hSS : strOfNums T = SS at *
  have HSS : Hid (strOfNums T = SS) := hSS
  clear hSS
  have hc1 : q ≤ xs.length := hpl
  by_cases hgt : xs.length < q + n
  · have hw1 : IntKind.i64.wrap ((xs.length : Int) - (q : Int)) = (m : Int) := by rw [IntKind.wrap_i64]; omega
    have t1 : decide ((m : Int) < (n : Int)) = true := decide_eq_true (by omega)
    have t2 : m < n := by omega
    clear HN HG0 HE0 hmn
    go_wp2
    go_quiet (fail)
    go_wp2
    go_quiet (fail)
    go_wp2
    go_quiet (fail)
    go_wp2
    go_ret
    exact ⟨by first | rfl | (rw [HSS.out]; rfl), HPut.out _ ((Kept.refl [] w1).drewN _)⟩
  · obtain ⟨r, hr⟩ : ∃ r : Nat, r = xs.length - q := ⟨_, rfl⟩
    have hw1 : IntKind.i64.wrap ((xs.length : Int) - (q : Int)) = (r : Int) := by rw [IntKind.wrap_i64]; omega
    have hnm : n = m := by omega
    subst hnm
    have t1 : decide ((r : Int) < (n : Int)) = false := decide_eq_false (by omega)
    have t2 : ¬ r < n := by omega
    clear HN HG0 HE0 hmn hr
    go_wp2
    go_quiet (fail)
    go_wp2
    go_quiet (fail)
    go_wp2
    go_ret
    exact ⟨by first | rfl | (rw [HSS.out]; rfl), HPut.out _ ((Kept.refl [] w1).drewN _)⟩
end Go.Proofs.YtnfbiemmdaenpaaDoor

namespace Go.Proofs.YtnfbiemmdaenpaaDoor
open Go.RowKit

def GoodText (xs : List Int) : Prop := Octs xs ∧ xs.length ≤ 140737488351232
structure EntL where
  mode : Int
  name : List Int
  id : List Int
def EntL.row (e : EntL) : List Value := .int .i64 e.mode :: .string (strOfNums e.name) :: e.id.map (Value.int .u8)
structure EntL.Good (e : EntL) : Prop where
  lo : -9223372036854775808 ≤ e.mode
  hi : e.mode ≤ 9223372036854775807
  name : GoodText e.name
  id : GoodID e.id
theorem EntL.row_len {e : EntL} (h : GoodID e.id) : e.row.length = 34 := by simp [EntL.row, h.1]

/-- A list of rows of k cells lies so. -/
def RowsAt (w : World) (v : Value) (k : Nat) (rows : List (List Value)) : Prop :=
  ∃ ao cap, v = .slice ao rows.length cap ∧ rows.length ≤ cap ∧ (ao = none → cap = 0) ∧ rows.length ≤ 140737488351232 ∧ (rows ≠ [] → ∃ b off, ao = some ⟨b, off, none⟩ ∧ ∀ (i : Nat) (cs : List Value), rows[i]? = some cs → w.rangeAt b (off + i * k) cs)
theorem RowsAt.keep {w w' : World} {v : Value} {k : Nat} {rows : List (List Value)} {T : List Nat} (h : RowsAt w v k rows) (q : Kept T w w') (hn : rows ≠ [] → ∀ b, blkOf v = some b → b ∉ T) : RowsAt w' v k rows := by
  obtain ⟨ao, cap, rfl, h1, h0, h2, hc⟩ := h
  refine ⟨ao, cap, rfl, h1, h0, h2, fun hne => ?_⟩
  obtain ⟨b, off, rfl, hh⟩ := hc hne
  exact ⟨b, off, rfl, fun i xs hi => range_kept (hh i xs hi) q (hn hne b rfl)⟩
/-- A list of entries lies so. -/
def EntsAt (w : World) (v : Value) (es : List EntL) : Prop := RowsAt w v 34 (es.map EntL.row)
theorem EntsAt.keep {w w' : World} {v : Value} {es : List EntL} {T : List Nat} (h : EntsAt w v es) (q : Kept T w w') (hn : es ≠ [] → ∀ b, blkOf v = some b → b ∉ T) : EntsAt w' v es :=
  RowsAt.keep h q fun hne => hn fun e => hne (by rw [e]; rfl)
theorem EntsAt.form {w : World} {v : Value} {es : List EntL} (h : EntsAt w v es) : ∃ ao cap, v = .slice ao es.length cap ∧ es.length ≤ cap ∧ es.length ≤ 140737488351232 ∧ (es ≠ [] → ∃ b off, ao = some ⟨b, off, none⟩ ∧ ∀ (i : Nat) (e : EntL), es[i]? = some e → w.rangeAt b (off + i * 34) e.row) := by
  obtain ⟨ao, cap, hv, h1, h0, h2, hc⟩ := h
  rw [List.length_map] at hv h1 h2
  refine ⟨ao, cap, hv, h1, h2, fun hne => ?_⟩
  obtain ⟨b, off, hb, hh⟩ := hc (by simpa using hne)
  exact ⟨b, off, hb, fun i e he => hh i e.row (by rw [List.getElem?_map, he]; rfl)⟩

theorem Tryd.infoEnt : (Tryd.prog.info? 74).map (·.size) = some 34 := by kernel_rfl
theorem ent_one (e : EntL) : e.row.toArray.all (·.oneCell') = true := all_oneCell_toArray fun v hv => by
  unfold EntL.row at hv
  rcases List.mem_cons.1 hv with rfl | hv
  · rfl
  · rcases List.mem_cons.1 hv with rfl | hv
    · rfl
    · exact map_oneCell _ v hv
theorem row_range {w : World} {b : Nat} {cs : List Value} {t : TypeId} {fr : Nat × Nat} (h : w.heap[b]? = some (.cells cs.toArray t fr)) : w.rangeAt b 0 cs := fun j v hj => by
  rw [cell_of_row _ _ _ _ _ _ h, Nat.zero_add, List.getElem?_toArray]; exact hj
/-- What a new variable with an entry in it holds. -/
theorem ent_cells (w : World) (e : EntL) : (w.alloc (.cells e.row.toArray 74)).cell? ⟨w.heap.size, 0, none⟩ = some (.int .i64 e.mode) ∧ (w.alloc (.cells e.row.toArray 74)).cell? ⟨w.heap.size, 1, none⟩ = some (.string (strOfNums e.name)) ∧
    (w.alloc (.cells e.row.toArray 74)).rangeAt w.heap.size 2 (e.id.map (Value.int .u8)) := by
  have hb := heap_alloc_new w (.cells e.row.toArray 74)
  refine ⟨?_, ?_, fun j v hj => ?_⟩
  · rw [cell_of_row _ _ _ _ _ _ hb]; rfl
  · rw [cell_of_row _ _ _ _ _ _ hb]; rfl
  · rw [cell_of_row _ _ _ _ _ _ hb, List.getElem?_toArray]
    unfold EntL.row
    rw [show 2 + j = j + 1 + 1 by omega, List.getElem?_cons_succ, List.getElem?_cons_succ]
    exact hj
/-- A new variable, and what is stored into it at once. -/
theorem wpList_store_new {ops : Array Oper} {rest : List Oper} {o : Oper} {a : Act} {Q : Exit → Act → World → Prop} (hgd : o.guard = none) (ty : TypeId) (x y : Operand) (ho : o.op = .store ty x y) (w0 : World) (old cells : Array Value)
    (hx : a.eval x = .pointer (some ⟨w0.heap.size, 0, none⟩)) (hy : a.eval y = .agg cells) (hi : (Tryd.prog.info? ty).map (·.size) = some cells.size) (hold : old.size = cells.size) (h1 : cells.all (·.oneCell') = true)
    (h : wpList Tryd.prog ops Q rest (a.put o.dst undef) (w0.alloc (.cells cells ty))) : wpList Tryd.prog ops Q (o :: rest) a (w0.alloc (.cells old ty)) := by
  refine wpList_store_row hgd ty x y ho w0.heap.size cells hx hy ty old (heap_alloc_new w0 _) hi hold h1 ?_
  rw [World.setRow_alloc_new]
  exact h
end Go.Proofs.YtnfbiemmdaenpaaDoor
