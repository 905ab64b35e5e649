/-
  WALKS: Guess.number, Guess.text of satchelref3.
  WALKS: (object.blob).fault, write; object.Encode of each kind.
  What is read is good; object.read's plain part.
-/
import Derived.Test.YtfcoeinhfdbcgaaGreatDoorBack0
import Derived.Test.YtfcoeinhfdbcgaaGreatDoorRows0
import Derived.Test.YtfcoeinhfdbcgaaGreatDoorRCopy
import Derived.Deep.CutRange
import Derived.Test.YtfcoeinhfdbcgaaGreatDoorRe4
namespace Go.Proofs.YtfcoeinhfdbcgaaGreatDoor
open Go.RowKit

/-- A number guessed: it, and how many bytes were asked for. -/
def numG (xs : List Int) (p : Nat) : Int × Nat :=
  if xAt xs p < 128 then (xAt xs p % 128, 1)
  else if xAt xs (p + 1) < 128 then (xAt xs p % 128 + 128 * (xAt xs (p + 1) % 128), 2)
  else (xAt xs p % 128 + 128 * (xAt xs (p + 1) % 128) + 16384 * (xAt xs (p + 2) % 128), 3)
theorem numG_bound (xs : List Int) (p : Nat) : 0 ≤ (numG xs p).1 ∧ (numG xs p).1 ≤ 2097151 := by
  unfold numG
  split
  · omega
  · split <;> omega

set_option maxRecDepth 100000 in
set_option maxHeartbeats 2000000 in
theorem gnum_any {w : World} {g : Nat} {v : Value} {xs : List Int} {p : Nat} (G : GAt w g v xs p) :
    Calls Tryz.prog 61 #[.pointer (some ⟨g, 0, none⟩)] w fun e w' => e = .returned (.int .i64 (numG xs p).1) ∧ GAt w' g v xs (plus xs p (numG xs p).2) ∧ Kept [g] w w' := by
  have HO : Hid (Octs xs) := G.oct
  have HG : Hid (GAt w g v xs p) := G
  obtain ⟨R, hR⟩ : ∃ R, R = numG xs p := ⟨_, rfl⟩
  rw [← hR]
  have HR : Hid (R = numG xs p) := hR
  clear G hR
  have HX : Hid (∀ q, 0 ≤ xAt xs q ∧ xAt xs q ≤ 255) := fun q => xAt_oct HO.out q
  go_enter Tryz.func61, Tryz.ntmps61
  go_wp2
  go_loopw [3, 4, 5] (fun s3 s4 s5 wr => ∃ (k : Nat) (n u : Int), k ≤ 3 ∧ s5 = .int .i64 k ∧ s3 = .int .i64 n ∧ s4 = .int .i64 u ∧ 0 ≤ n ∧ n ≤ 2097151 ∧ 1 ≤ u ∧ u ≤ 2097152 ∧
      Hid ((k = 0 ∧ n = 0 ∧ u = 1) ∨ (k = 1 ∧ u = 128 ∧ n = xAt xs p % 128 ∧ 128 ≤ xAt xs p) ∨ (k = 2 ∧ u = 16384 ∧ n = xAt xs p % 128 + 128 * (xAt xs (p + 1) % 128) ∧ 128 ≤ xAt xs p ∧ 128 ≤ xAt xs (p + 1)) ∨ (k = 3 ∧ R = (n, 3))) ∧
      Hid (GAt wr g v xs (plus xs p k)) ∧ Hid (Kept [g] w wr)) (fun _ _ s5 _ => 3 - (intOf s5).toNat)
  case atStart => exact ⟨0, 0, 1, by omega, rfl, rfl, rfl, by omega, by omega, by omega, by omega, Or.inl ⟨rfl, rfl, rfl⟩, by rw [show plus xs p 0 = p by have := HG.out.le; unfold plus; omega]; exact HG, Kept.refl _ _⟩
  case round =>
    obtain ⟨k, n, u, hk, rfl, rfl, rfl, n0, n1, u0, u1, HC, HGk, HK⟩ := hrel
    by_cases hlt : k < 3
    · have t1 : decide ((k : Int) < 3) = true := decide_eq_true (by omega)
      have h1 := one_any HGk.out
      rw [plus_plus, xAt_plus] at h1
      have hxo := HX.out (p + k)
      obtain ⟨x, hx⟩ : ∃ x, x = xAt xs (p + k) := ⟨_, rfl⟩
      rw [← hx] at h1 hxo
      have HXK : Hid (x = xAt xs (p + k)) := hx
      clear hx HGk
      obtain ⟨r, hr⟩ : ∃ r, r = x % 128 := ⟨_, rfl⟩
      have hr0 : 0 ≤ r ∧ r ≤ 127 := by omega
      have htm : Int.tmod x 128 = r := by rw [Int.tmod_eq_emod_of_nonneg hxo.1, hr]
      have hub : u ≤ 16384 := by
        rcases HC.out with h | h | h | h
        · omega
        · omega
        · omega
        · omega
      have hur : 0 ≤ u * r ∧ u * r ≤ 2080768 := by
        refine ⟨Int.mul_nonneg (by omega) hr0.1, ?_⟩
        calc u * r ≤ 16384 * r := Int.mul_le_mul_of_nonneg_right hub hr0.1
          _ ≤ 16384 * 127 := Int.mul_le_mul_of_nonneg_left hr0.2 (by decide)
      have hnb : n + u * r ≤ 2097151 := by
        rcases HC.out with ⟨_, h2, h3⟩ | ⟨_, h2, h3, _⟩ | ⟨_, h2, h3, _⟩ | ⟨h, _⟩
        · subst h2 h3; omega
        · have := HX.out p
          rw [h2] at hur ⊢
          omega
        · have := HX.out p
          have := HX.out (p + 1)
          rw [h2] at hur ⊢
          omega
        · omega
      have HRr : Hid (r = x % 128) := hr
      obtain ⟨m, hm⟩ : ∃ m, m = u * r := ⟨_, rfl⟩
      have HM : Hid (m = u * r) := hm
      rw [← hm] at hur hnb
      have hmm : u * r = m := hm.symm
      have hwr : IntKind.i64.wrap r = r := by rw [IntKind.wrap_i64]; omega
      have hwm : IntKind.i64.wrap m = m := by rw [IntKind.wrap_i64]; omega
      have hwn : IntKind.i64.wrap (n + m) = n + m := by rw [IntKind.wrap_i64]; omega
      have hwu : IntKind.i64.wrap (u * 128) = u * 128 := by rw [IntKind.wrap_i64]; omega
      clear hr hm
      by_cases hx128 : x < 128
      · have t2 : decide (x < 128) = true := decide_eq_true hx128
        have HRf : Hid (R = (n + m, k + 1)) := by
          show _ = _
          rw [HR.out, HM.out, HRr.out]
          have e := HXK.out
          rcases HC.out with ⟨h1, h2, h3⟩ | ⟨h1, h2, h3, h4⟩ | ⟨h1, h2, h3, h4, h5⟩ | ⟨h, _⟩
          · subst h1 h2 h3
            rw [Nat.add_zero] at e
            unfold numG
            rw [← e, if_pos hx128]
            simp
          · subst h1 h2
            unfold numG
            rw [if_neg (by omega), ← e, if_pos hx128, h3]
          · subst h1 h2
            unfold numG
            rw [if_neg (by omega), if_neg (by omega), ← e, h3]
          · omega
        go_wp2_with (go_at_call 60; refine h1.mono ?_; rintro e w1 ⟨rfl, g1, k1⟩; have HG1 : Hid (GAt w1 g v xs (plus xs p (k + 1))) := g1; have HK1 : Hid (Kept [g] w w1) := Kept.trans HK.out k1 (fun x hx => Or.inl hx); clear g1 k1)
        go_ret
        have e := HRf.out
        subst e
        exact ⟨rfl, HG1.out, HK1.out⟩
      · have t2 : decide (x < 128) = false := decide_eq_false hx128
        have HC' : Hid ((k + 1 = 0 ∧ n + m = 0 ∧ u * 128 = 1) ∨ (k + 1 = 1 ∧ u * 128 = 128 ∧ n + m = xAt xs p % 128 ∧ 128 ≤ xAt xs p) ∨ (k + 1 = 2 ∧ u * 128 = 16384 ∧ n + m = xAt xs p % 128 + 128 * (xAt xs (p + 1) % 128) ∧ 128 ≤ xAt xs p ∧ 128 ≤ xAt xs (p + 1)) ∨ (k + 1 = 3 ∧ R = (n + m, 3))) := by
          have e := HXK.out
          have e2 := HM.out
          have e3 := HRr.out
          rcases HC.out with ⟨h1, h2, h3⟩ | ⟨h1, h2, h3, h4⟩ | ⟨h1, h2, h3, h4, h5⟩ | ⟨h, _⟩
          · subst h1 h2 h3
            rw [Nat.add_zero] at e
            refine Or.inr (Or.inl ⟨rfl, rfl, ?_, ?_⟩)
            · rw [e2, e3, e]; omega
            · rw [← e]; omega
          · subst h1 h2
            refine Or.inr (Or.inr (Or.inl ⟨rfl, rfl, ?_, h4, ?_⟩))
            · rw [e2, e3, e, h3]
            · rw [← e]; omega
          · subst h1 h2
            refine Or.inr (Or.inr (Or.inr ⟨rfl, ?_⟩))
            rw [HR.out]
            unfold numG
            rw [if_neg (by omega), if_neg (by omega), e2, e3, e, h3]
          · omega
        go_wp2_with (go_at_call 60; refine h1.mono ?_; rintro e w1 ⟨rfl, g1, k1⟩; have HG1 : Hid (GAt w1 g v xs (plus xs p (k + 1))) := g1; have HK1 : Hid (Kept [g] w w1) := Kept.trans HK.out k1 (fun x hx => Or.inl hx); clear g1 k1)
        go_roundw
        case rel => exact ⟨k + 1, n + m, u * 128, by omega, by go_num, by go_num, by go_num, by omega, by omega, by omega, by omega, HC', HG1, HK1⟩
        case measure => simp [intOf]; omega
    · have t1 : decide ((k : Int) < 3) = false := decide_eq_false (by omega)
      have HE : Hid (k = 3 ∧ R = (n, 3)) := by
        rcases HC.out with h | h | h | h
        · omega
        · omega
        · omega
        · exact h
      go_wp2
      go_ret
      obtain ⟨e, e2⟩ := HE.out
      subst e e2
      exact ⟨rfl, HGk.out, HK.out⟩

/-- A text guessed: where it begins, where it ends. -/
def txtP (xs : List Int) (p : Nat) : Nat := plus xs p (numG xs p).2
def txtN (xs : List Int) (p : Nat) : Nat := min (numG xs p).1.toNat (xs.length - txtP xs p)
def txtG (xs : List Int) (p : Nat) : List Int := (xs.drop (txtP xs p)).take (txtN xs p)
def txtE (xs : List Int) (p : Nat) : Nat := txtP xs p + txtN xs p
theorem txtE_le (xs : List Int) (p : Nat) : txtE xs p ≤ xs.length := by
  have := plus_le xs p (numG xs p).2
  unfold txtE txtN txtP
  omega
theorem txtG_len (xs : List Int) (p : Nat) : (txtG xs p).length = txtN xs p := by
  unfold txtG
  rw [List.length_take, List.length_drop]
  unfold txtN
  omega

set_option maxRecDepth 100000 in
set_option maxHeartbeats 2000000 in
theorem gtext_any {w : World} {g : Nat} {v : Value} {xs : List Int} {p : Nat} (G : GAt w g v xs p) :
    Calls Tryz.prog 62 #[.pointer (some ⟨g, 0, none⟩)] w fun e w' => e = .returned (.string (strOfNums (txtG xs p))) ∧ GAt w' g v xs (txtE xs p) ∧ Kept [g] w w' := by
  have hnum := gnum_any G
  have hb := numG_bound xs p
  have hlen := G.len
  rw [show plus xs p (numG xs p).2 = txtP xs p from rfl] at hnum
  have hpl : txtP xs p ≤ xs.length := plus_le _ _ _
  obtain ⟨ao, cap, rfl, hcap, hnil, _⟩ := G.bytes
  clear G
  obtain ⟨n, hn⟩ : ∃ n : Nat, (numG xs p).1 = (n : Int) := ⟨(numG xs p).1.toNat, by omega⟩
  have HN : Hid (txtN xs p = min n (xs.length - txtP xs p)) := by show _ = _; unfold txtN; rw [hn]; rfl
  rw [hn] at hnum hb
  have HG0 : Hid (txtG xs p = (xs.drop (txtP xs p)).take (txtN xs p)) := rfl
  have HE0 : Hid (txtE xs p = txtP xs p + txtN xs p) := rfl
  generalize txtG xs p = T at *
  generalize txtE xs p = E at *
  generalize txtN xs p = m at *
  generalize txtP xs p = q at *
  clear hn
  go_enter Tryz.func62, Tryz.ntmps62
  go_wp2_with fail
  go_at_call 61
  refine hnum.mono ?_
  rintro e w1 ⟨rfl, G1, k1⟩
  clear hnum
  have hfz : w1.frozen? ⟨g, 1, none⟩ = false := frozen_of_row w1 g _ _ _ G1.box
  have d0 : w1.cell? ⟨g, 0, none⟩ = some (.slice ao xs.length cap) := by rw [cell_of_row _ _ _ _ _ _ G1.box]; rfl
  have d1 : w1.cell? ⟨g, 1, none⟩ = some (.int .i64 (q : Int)) := by rw [cell_of_row _ _ _ _ _ _ G1.box]; rfl
  have HG1 : Hid (GAt w1 g (.slice ao xs.length cap) xs q) := G1
  have HK1 : Hid (Kept [g] w w1) := k1
  clear G1 k1
  have hmn : m = min n (xs.length - q) := HN.out
  have hcut : ∀ (ao : Option Addr) (cap lo : Nat), (if cap = lo then ao else Option.map (fun x => x.add lo) ao) = cutA ao cap lo := fun _ _ _ => rfl
  have HD : Hid (∀ k, (w1.drewN k).cell? ⟨g, 0, none⟩ = some (.slice ao xs.length cap) ∧ (w1.drewN k).cell? ⟨g, 1, none⟩ = some (.int .i64 (q : Int))) := fun k => ⟨d0, d1⟩
  have hcv := fun k => (bytes_cut (w := w1.drewN k) ((HG1.out.kept (T := []) ((Kept.refl [] w1).drewN k) (by simp) (fun _ _ _ => by simp)).bytes) q m (by omega)).1.conv
  rw [← HG0.out] at hcv
  have hqm : IntKind.i64.wrap ((q : Int) + (m : Int)) = (q : Int) + (m : Int) := by rw [IntKind.wrap_i64]; omega
  have hle1 : q + m ≤ xs.length := by omega
  have HPut : Hid (∀ W, Kept [] w1 W → GAt (W.setCell ⟨g, 1, none⟩ (.int .i64 ((q : Int) + (m : Int)))) g (.slice ao xs.length cap) xs E ∧ Kept [g] w (W.setCell ⟨g, 1, none⟩ (.int .i64 ((q : Int) + (m : Int))))) := fun W k => by
    have G2 := HG1.out.kept k (by simp) (fun _ _ _ => by simp)
    obtain ⟨a, b⟩ := G2.put (q := q + m) hle1
    rw [show ((q + m : Nat) : Int) = (q : Int) + (m : Int) from rfl] at a b
    rw [HE0.out]
    exact ⟨a, (HK1.out.trans k (by simp)).trans b (fun x hx => Or.inl hx)⟩
  generalize hSS : strOfNums T = SS at *
  have HSS : Hid (strOfNums T = SS) := hSS
  clear hSS
  have hc1 : q ≤ xs.length := hpl
  by_cases hgt : xs.length < q + n
  · have hw1 : IntKind.i64.wrap ((xs.length : Int) - (q : Int)) = (m : Int) := by rw [IntKind.wrap_i64]; omega
    have t1 : decide ((m : Int) < (n : Int)) = true := decide_eq_true (by omega)
    have t2 : m < n := by omega
    clear HN HG0 HE0 hmn
    go_wp2
    go_quiet (fail)
    go_wp2
    go_quiet (fail)
    go_wp2
    go_quiet (fail)
    go_wp2
    go_ret
    exact ⟨by first | rfl | (rw [HSS.out]; rfl), HPut.out _ ((Kept.refl [] w1).drewN _)⟩
  · obtain ⟨r, hr⟩ : ∃ r : Nat, r = xs.length - q := ⟨_, rfl⟩
    have hw1 : IntKind.i64.wrap ((xs.length : Int) - (q : Int)) = (r : Int) := by rw [IntKind.wrap_i64]; omega
    have hnm : n = m := by omega
    subst hnm
    have t1 : decide ((r : Int) < (n : Int)) = false := decide_eq_false (by omega)
    have t2 : ¬ r < n := by omega
    clear HN HG0 HE0 hmn hr
    go_wp2
    go_quiet (fail)
    go_wp2
    go_quiet (fail)
    go_wp2
    go_ret
    exact ⟨by first | rfl | (rw [HSS.out]; rfl), HPut.out _ ((Kept.refl [] w1).drewN _)⟩
end Go.Proofs.YtfcoeinhfdbcgaaGreatDoor

namespace Go.Proofs.YtfcoeinhfdbcgaaGreatDoor
open Go.RowKit

def faultB (xs : List Int) : Int := if 65536 < 1 + xs.length then 31 else 0
def encB (xs : List Int) : List Int := fixedB 1 1 ++ xs

theorem blobFault_any (v : Value) (xs : List Int) (w : World) (hv : BytesAt w v xs) (hm : xs.length ≤ 140737488351232) :
    Calls Tryz.prog 115 #[v] w fun e w' => e = .returned (.int .i64 (faultB xs)) ∧ Kept [] w w' := by
  obtain ⟨ao, cap, rfl, _⟩ := hv
  by_cases hl : 65536 < 1 + xs.length
  · have HF : Hid (faultB xs = 31) := if_pos hl
    go_enter Tryz.func115, Tryz.ntmps115
    go_wp2
    go_ret
    exact ⟨by rw [HF.out]; rfl, Kept.refl _ _⟩
  · have HF : Hid (faultB xs = 0) := if_neg hl
    go_enter Tryz.func115, Tryz.ntmps115
    go_wp2
    go_ret
    exact ⟨by rw [HF.out]; rfl, Kept.refl _ _⟩

theorem blobWrite_any (v : Value) (xs : List Int) {w : World} {wb B : Nat} {zs : List Int} {S : List Nat} (h : WAt w wb B zs S) (hBw : B ≤ w.heap.size) (hv : BytesAt w v xs) (hd : xs ≠ [] → ∀ b, blkOf v = some b → b ∉ S) (ho : Octs xs) (hz : zs.length + xs.length ≤ 100000000) :
    Calls Tryz.prog 116 #[v, .pointer (some ⟨wb, 0, none⟩)] w fun e w' => e = .returned (.tuple #[]) ∧ Wrote w w' wb B (zs ++ encB xs) S := by
  have HU0 : Hid (∀ W S', WSt w W wb B zs S S' → Calls Tryz.prog 117 #[.pointer (some ⟨wb, 0, none⟩), .int .u8 1] W fun e w' => e = .returned (.tuple #[]) ∧ Wrote W w' wb B (zs ++ fixedB 1 1) S') := fun W S' q => WU8_any q.at' (Nat.le_trans hBw q.keep.size) 1 (by decide) (by decide) (by omega)
  have HU1 : Hid (∀ W S', WSt w W wb B (zs ++ fixedB 1 1) S S' → Calls Tryz.prog 118 #[.pointer (some ⟨wb, 0, none⟩), v] W fun e w' => e = .returned (.tuple #[]) ∧ Wrote W w' wb B (zs ++ fixedB 1 1 ++ xs) S') := fun W S' q => WRaw_any q.at' (Nat.le_trans hBw q.keep.size) v xs (hv.keep q.keep hd) ho (by rw [List.length_append, fixedB_len]; omega)
  have HW0 : Hid (WSt w w wb B zs S S) := WSt.start h
  have HE : Hid (zs ++ fixedB 1 1 ++ xs = zs ++ encB xs) := List.append_assoc _ _ _
  obtain ⟨ao, cap, rfl, _⟩ := hv
  clear h hd ho
  go_enter Tryz.func116, Tryz.ntmps116
  go_wp2_with (first
    | (go_at_call 117; refine (HU0.out _ _ HW0.out).mono ?_; rintro e w1 ⟨rfl, hw1⟩
       obtain ⟨S1, hs1, _, _⟩ := HW0.out.next hw1
       have HW1 : Hid (WSt w w1 wb B (zs ++ fixedB 1 1) S S1) := hs1
       clear hs1 hw1)
    | (go_at_call 118; refine (HU1.out _ _ HW1.out).mono ?_; rintro e w2 ⟨rfl, hw2⟩
       obtain ⟨S2, hs2, _, _⟩ := HW1.out.next hw2
       have HW2 : Hid (WSt w w2 wb B (zs ++ fixedB 1 1 ++ xs) S S2) := hs2
       clear hs2 hw2))
  go_end0
  exact ⟨rfl, by rw [← HE.out]; exact HW2.out.wrote⟩

theorem kept_new {w W W' : World} {b : Nat} (h : Kept [] w W) (k : Kept [b] W W') (hb : w.heap.size ≤ b) : Kept [] w W' := h.trans k fun x hx => Or.inr (by rw [List.mem_singleton.1 hx]; exact hb)
theorem meth_blob_fault (n : Nat) (v : Value) (W : World) : (method (n + 1) 88 v "satchel/object.fault").run Tryz.prog W = .ok (115, v) W := by kernel_rfl
theorem meth_blob_write (n : Nat) (v : Value) (W : World) : (method (n + 1) 88 v "satchel/object.write").run Tryz.prog W = .ok (116, v) W := by kernel_rfl
theorem meth_blob_children (n : Nat) (v : Value) (W : World) : (method (n + 1) 88 v "satchel/object.children").run Tryz.prog W = .ok (114, v) W := by kernel_rfl
theorem meth_tree_fault (n : Nat) (v : Value) (W : World) : (method (n + 1) 89 v "satchel/object.fault").run Tryz.prog W = .ok (121, v) W := by kernel_rfl
theorem meth_tree_write (n : Nat) (v : Value) (W : World) : (method (n + 1) 89 v "satchel/object.write").run Tryz.prog W = .ok (122, v) W := by kernel_rfl
theorem meth_tree_children (n : Nat) (v : Value) (W : World) : (method (n + 1) 89 v "satchel/object.children").run Tryz.prog W = .ok (120, v) W := by kernel_rfl
theorem meth_commit_fault (n : Nat) (v : Value) (W : World) : (method (n + 1) 90 v "satchel/object.fault").run Tryz.prog W = .ok (128, v) W := by kernel_rfl
theorem meth_commit_write (n : Nat) (v : Value) (W : World) : (method (n + 1) 90 v "satchel/object.write").run Tryz.prog W = .ok (129, v) W := by kernel_rfl
theorem meth_commit_children (n : Nat) (v : Value) (W : World) : (method (n + 1) 90 v "satchel/object.children").run Tryz.prog W = .ok (127, v) W := by kernel_rfl
theorem meth_tag_fault (n : Nat) (v : Value) (W : World) : (method (n + 1) 91 v "satchel/object.fault").run Tryz.prog W = .ok (135, v) W := by kernel_rfl
theorem meth_tag_write (n : Nat) (v : Value) (W : World) : (method (n + 1) 91 v "satchel/object.write").run Tryz.prog W = .ok (136, v) W := by kernel_rfl
theorem meth_tag_children (n : Nat) (v : Value) (W : World) : (method (n + 1) 91 v "satchel/object.children").run Tryz.prog W = .ok (134, v) W := by kernel_rfl
/-- What Encode answers, of a content with this fault and these bytes. -/
def EncP (w : World) (fv : Int) (enc : List Int) (e : Ending) (w' : World) : Prop :=
  Kept [] w w' ∧ (fv ≠ 0 → e = .returned (.tuple #[.slice none 0 0, .int .i64 fv])) ∧ (fv = 0 → 65536 < enc.length → e = .returned (.tuple #[.slice none 0 0, .int .i64 31])) ∧
    (fv = 0 → enc.length ≤ 65536 → ∃ b, e = .returned (.tuple #[.slice (some ⟨b, 0, none⟩) enc.length enc.length, .int .i64 0]) ∧ w'.heap[b]? = some (.cells (enc.map (Value.int .u8)).toArray 5 (0, 0)) ∧ w.heap.size ≤ b)
end Go.Proofs.YtfcoeinhfdbcgaaGreatDoor

namespace Go.Proofs.YtfcoeinhfdbcgaaGreatDoor
open Go.RowKit

theorem take_octs (xs : List Int) (ho : Octs xs) (pl f : Nat) (kind size most : Int) : Octs (takeL xs pl f kind size most).text := by
  unfold takeL
  split
  · intro u hu; simp at hu
  · split
    · intro u hu; simp at hu
    · intro u hu
      exact ho u (List.mem_of_mem_drop (List.mem_of_mem_take (List.mem_of_mem_drop hu)))
theorem idOf_good {t : List Int} (ho : Octs t) (hl : t.length ≤ 32) : GoodID (idOf t) := ⟨idOf_len hl, fun u hu => by
  unfold idOf at hu
  rcases List.mem_append.1 hu with h | h
  · exact ho u h
  · have := List.mem_of_mem_drop h
    unfold zero32 at this
    rw [(List.mem_replicate.1 this).2]
    exact ⟨by decide, by decide⟩⟩
theorem take_text_good (xs : List Int) (ho : Octs xs) (hs : xs.length ≤ 65536) (pl f : Nat) (kind size most : Int) : GoodText (takeL xs pl f kind size most).text := ⟨take_octs xs ho pl f kind size most, Nat.le_trans (take_len xs pl f kind size most) (by omega)⟩
theorem rdEs_good (xs : List Int) (ho : Octs xs) (hs : xs.length ≤ 65536) (pl f : Nat) : ∀ k e, e ∈ (rdEs xs pl f k).1 → e.Good
  | 0, e, h => by simp [rdEs] at h
  | k + 1, e, h => by
    unfold rdEs at h
    rcases List.mem_append.1 h with h | h
    · exact rdEs_good xs ho hs pl f k e h
    · rw [List.mem_singleton.1 h]
      have hb := take_lt xs ho (rdEs xs pl f k).2.1 (rdEs xs pl f k).2.2 1
      have hb1 : (takeL xs (rdEs xs pl f k).2.1 (rdEs xs pl f k).2.2 0 ((1 : Nat) : Int) 0).n < 256 := hb.2
      have hb0 := hb.1
      exact ⟨by show -9223372036854775808 ≤ (takeL xs (rdEs xs pl f k).2.1 (rdEs xs pl f k).2.2 0 ((1 : Nat) : Int) 0).n; omega, by show (takeL xs (rdEs xs pl f k).2.1 (rdEs xs pl f k).2.2 0 ((1 : Nat) : Int) 0).n ≤ 9223372036854775807; omega, take_text_good xs ho hs _ _ _ _ _, idOf_good (take_octs xs ho _ _ _ _ _) (raw32_len _ _ _)⟩
theorem EntsAt.of_rows {w : World} {b : Nat} {es : List EntL} (h : RowsIn w b 80 (es.map EntL.row)) (hg : ∀ e, e ∈ es → e.Good) (hl : es.length ≤ 1024) : EntsAt w (.slice (some ⟨b, 0, none⟩) es.length es.length) es := by
  refine ⟨_, es.length, by rw [List.length_map], by rw [List.length_map]; exact Nat.le_refl _, fun e => (by cases e), by rw [List.length_map]; omega, fun _ => ⟨b, 0, rfl, fun i cs hi => ?_⟩⟩
  rw [Nat.zero_add]
  exact h.range 34 (by decide) (fun r hr => by
    obtain ⟨e, he, rfl⟩ := List.mem_map.1 hr
    exact EntL.row_len (hg e he).id) i cs hi
theorem take_f (xs : List Int) (ho : Octs xs) (pl f : Nat) (hf : f ≤ 4) (kind size most : Int) (hs : kind = 0 → size ≤ 8) (hm : most ≤ 18446744073709551615) : (takeL xs pl f kind size most).f ≤ 4 := by
  unfold takeL
  split
  · exact hf
  · split
    · exact (lookL_fits (xs.drop pl) kind size most (octs_drop ho pl) hs hm).f
    · exact Nat.zero_le _
theorem rdIs_good (xs : List Int) (ho : Octs xs) (pl f : Nat) : ∀ k e, e ∈ (rdIs xs pl f k).1 → GoodID e
  | 0, e, h => by simp [rdIs] at h
  | k + 1, e, h => by
    unfold rdIs at h
    rcases List.mem_append.1 h with h | h
    · exact rdIs_good xs ho pl f k e h
    · rw [List.mem_singleton.1 h]
      exact idOf_good (take_octs xs ho _ _ _ _ _) (raw32_len _ _ _)
theorem IdsAt.of_rows {w : World} {b : Nat} {ids : List (List Int)} (h : RowsIn w b 29 (ids.map idRow)) (hg : ∀ e, e ∈ ids → GoodID e) (hl : ids.length ≤ 1024) : IdsAt w (.slice (some ⟨b, 0, none⟩) ids.length ids.length) ids := by
  refine ⟨_, ids.length, rfl, Nat.le_refl _, fun e => (by cases e), by omega, fun _ => ⟨b, 0, rfl, fun i xs hi => ?_⟩⟩
  rw [Nat.zero_add]
  exact h.range 32 (by decide) (fun r hr => by
    obtain ⟨e, he, rfl⟩ := List.mem_map.1 hr
    unfold idRow
    rw [List.length_map, (hg e he).1]) i _ (by rw [List.getElem?_map, hi]; rfl)
theorem errL_ne : ∀ f : Nat, f ≠ 0 → f ≤ 4 → errL f ≠ 0
  | 0, h, _ => absurd rfl h
  | 1, _, _ => by decide
  | 2, _, _ => by decide
  | 3, _, _ => by decide
  | 4, _, _ => by decide
  | _ + 5, _, h => by omega
end Go.Proofs.YtfcoeinhfdbcgaaGreatDoor
