/-
  WALKS: satchellaw1.writes: one step is laid into the program's Writer and into the document's own list, for every two that hold the same bytes, and every step: what is asked, and all others.
-/
import Derived.Test.YtmambfdfkobjgaaEq
import Derived.Test.YtmambfdfkobjgaaDuo
namespace Go.Proofs.Ytmambfdfkobjgaa
open Go.RowKit

theorem row_bytes2 {w : World} {q : Nat} {ys : List Int} (h : w.heap[q]? = some (.cells (ys.map (Value.int .u8)).toArray 5 (0, 0))) : BytesAt w (.slice (some ⟨q, 0, none⟩) ys.length ys.length) ys := by
  refine ⟨_, _, rfl, Nat.le_refl _, fun e => (by simp at e), fun _ => ⟨q, 0, rfl, fun i u hu => ?_⟩⟩
  rw [cell_of_row _ _ _ _ _ _ h, Nat.zero_add, ← Array.getElem?_toList]
  simp [hu]

set_option maxRecDepth 100000 in
set_option maxHeartbeats 2000000 in
theorem writes_len {w : World} {wb B : Nat} {v : Value} {zs : List Int} {S : List Nat} (D : Duo w wb B v zs S) (hBw : B ≤ w.heap.size) (owhich om on : Int) (oao : Option Addr) (ocap : Nat) (ob : List Int)
    (hb : BytesAt w (.slice oao ob.length ocap) ob) (hdb : ob ≠ [] → ∀ b, blkOf (.slice oao ob.length ocap) = some b → b ∉ foot v S) (hm : zs.length + ob.length + 20 ≤ 140737488351232) :
    Calls Try.prog 8 #[.pointer (some ⟨wb, 0, none⟩), v, .agg #[.int .i64 7, .int .i64 owhich, .int .i64 om, .int .u64 on, .slice oao ob.length ocap]] w fun e w' => WritesTo w w' wb B v zs S ob.length e := by
  have hk0 : Kept [] w (w.alloc (.cells #[.int .i64 7, .int .i64 owhich, .int .i64 om, .int .u64 on, .slice oao ob.length ocap] 55)) := (Kept.refl _ w).alloc _
  have hlend := Lend_any (.slice oao ob.length ocap) ob (w.alloc (.cells #[.int .i64 7, .int .i64 owhich, .int .i64 om, .int .u64 on, .slice oao ob.length ocap] 55)) (hb.kept hk0 (fun _ _ => by simp)) (by omega)
  have hbs : w.heap.size ∉ foot v S := fun h => absurd (D.lt _ h).2 (by omega)
  have HO : Hid (∀ w1, Kept (foot v S) (w.alloc (.cells #[.int .i64 7, .int .i64 owhich, .int .i64 om, .int .u64 on, .slice oao ob.length ocap] 55)) w1 → w.heap.size < w1.heap.size ∧ (∀ o, w1.cell? ⟨w.heap.size, o, none⟩ = (#[.int .i64 7, .int .i64 owhich, .int .i64 om, .int .u64 on, .slice oao ob.length ocap] : Array Value)[o]?)) := fun w1 h => h.boxed hbs
  have HV : Hid (∀ w1, Kept (foot v S) w w1 → BytesAt w1 (.slice oao ob.length ocap) ob) := fun w1 h => hb.keep h hdb
  have HD : Hid (Duo w wb B v zs S) := D
  have HS : Hid (∀ x, x ∈ foot v S → x < w.heap.size) := fun x hx => (D.lt x hx).2
  obtain ⟨ao, cv, rfl⟩ := own_shape D.own
  clear hb hdb D
  go_enter Try.func8, Try.ntmps8
  go_wp2_with (first
    | (go_at_call 20; refine hlend.mono ?_; rintro e w1 ⟨g, cap, rfl, hL, hk1⟩
       have HL : Hid (Lent w1 _ g cap ob) := hL
       have HK1 : Hid (Kept [] w w1) := hk0.then hk1
       have HK0 : Hid (Kept [] _ w1) := hk1
       have hc1 := HO.out w1 (hk1.more (by simp))
       have hgr : w.heap.size ≤ g ∧ g < w1.heap.size := ⟨Nat.le_trans hk0.size (Lent.room hL).2.2.1, (Lent.room hL).2.2.2⟩
       have D1 : Hid (Duo w1 wb B _ zs S) := HD.out.box HK1.out
       have hB1 : B ≤ w1.heap.size := Nat.le_trans hBw HK1.out.size
       clear hL hk1)
    | (go_at_call 37; refine (WLen_any D1.out.wr).mono ?_; rintro e w2 ⟨rfl, rfl⟩))
  exact bodyPost_ret (v := .tuple #[.slice ao zs.length cv, .bool true]) (by simp [results, Try.results8, go_sem]) rfl ⟨_, zs, S, rfl, DuoTo.ahead HK1.out (DuoTo.same D1.out), by omega⟩

set_option maxRecDepth 100000 in
set_option maxHeartbeats 2000000 in
theorem writes_out {w : World} {wb B : Nat} {v : Value} {zs : List Int} {S : List Nat} (D : Duo w wb B v zs S) (hBw : B ≤ w.heap.size) (owhich om on : Int) (oao : Option Addr) (ocap : Nat) (ob : List Int)
    (hb : BytesAt w (.slice oao ob.length ocap) ob) (hdb : ob ≠ [] → ∀ b, blkOf (.slice oao ob.length ocap) = some b → b ∉ foot v S) (hm : zs.length + ob.length + 20 ≤ 140737488351232) :
    Calls Try.prog 8 #[.pointer (some ⟨wb, 0, none⟩), v, .agg #[.int .i64 8, .int .i64 owhich, .int .i64 om, .int .u64 on, .slice oao ob.length ocap]] w fun e w' => WritesTo w w' wb B v zs S ob.length e := by
  have hk0 : Kept [] w (w.alloc (.cells #[.int .i64 8, .int .i64 owhich, .int .i64 om, .int .u64 on, .slice oao ob.length ocap] 55)) := (Kept.refl _ w).alloc _
  have hlend := Lend_any (.slice oao ob.length ocap) ob (w.alloc (.cells #[.int .i64 8, .int .i64 owhich, .int .i64 om, .int .u64 on, .slice oao ob.length ocap] 55)) (hb.kept hk0 (fun _ _ => by simp)) (by omega)
  have hbs : w.heap.size ∉ foot v S := fun h => absurd (D.lt _ h).2 (by omega)
  have HO : Hid (∀ w1, Kept (foot v S) (w.alloc (.cells #[.int .i64 8, .int .i64 owhich, .int .i64 om, .int .u64 on, .slice oao ob.length ocap] 55)) w1 → w.heap.size < w1.heap.size ∧ (∀ o, w1.cell? ⟨w.heap.size, o, none⟩ = (#[.int .i64 8, .int .i64 owhich, .int .i64 om, .int .u64 on, .slice oao ob.length ocap] : Array Value)[o]?)) := fun w1 h => h.boxed hbs
  have HV : Hid (∀ w1, Kept (foot v S) w w1 → BytesAt w1 (.slice oao ob.length ocap) ob) := fun w1 h => hb.keep h hdb
  have HD : Hid (Duo w wb B v zs S) := D
  have HS : Hid (∀ x, x ∈ foot v S → x < w.heap.size) := fun x hx => (D.lt x hx).2
  clear hb hdb D
  go_enter Try.func8, Try.ntmps8
  go_wp2_with (first
    | (go_at_call 20; refine hlend.mono ?_; rintro e w1 ⟨g, cap, rfl, hL, hk1⟩
       have HL : Hid (Lent w1 _ g cap ob) := hL
       have HK1 : Hid (Kept [] w w1) := hk0.then hk1
       have HK0 : Hid (Kept [] _ w1) := hk1
       have hc1 := HO.out w1 (hk1.more (by simp))
       have hgr : w.heap.size ≤ g ∧ g < w1.heap.size := ⟨Nat.le_trans hk0.size (Lent.room hL).2.2.1, (Lent.room hL).2.2.2⟩
       have D1 : Hid (Duo w1 wb B v zs S) := HD.out.box HK1.out
       have hB1 : B ≤ w1.heap.size := Nat.le_trans hBw HK1.out.size
       clear hL hk1)
    | (go_at_call 15; refine (WOut_any D1.out.wr (by omega)).mono ?_; rintro e w2 ⟨rfl, hr2, hk2⟩
       have D2 : Hid (Duo w2 wb B v zs S) := D1.out.box hk2
       have HR2 : Hid _ := row_bytes2 hr2
       have HK2 : Hid (Kept [] w w2) := HK1.out.then hk2
       clear hr2 hk2)
    | (go_at_call 18; refine (Eq_same HR2.out D2.out.own.bytes (by omega)).mono ?_; rintro e w3 ⟨rfl, n, rfl⟩))
  exact bodyPost_ret (v := .tuple #[v, .bool true]) (by simp [results, Try.results8, go_sem]) rfl ⟨_, zs, S, rfl, DuoTo.ahead (HK2.out.drewN n) (DuoTo.same (D2.out.box ((Kept.refl _ _).drewN n))), by omega⟩

set_option maxRecDepth 100000 in
set_option maxHeartbeats 2000000 in
theorem writes_other {w : World} {wb B : Nat} {v : Value} {zs : List Int} {S : List Nat} (D : Duo w wb B v zs S) (hBw : B ≤ w.heap.size) (ok : Int) (owhich om on : Int) (oao : Option Addr) (ocap : Nat) (ob : List Int) (h1 : ok ≠ 1) (h2 : ok ≠ 2) (h3 : ok ≠ 3) (h4 : ok ≠ 4) (h5 : ok ≠ 5) (h6 : ok ≠ 6) (h7 : ok ≠ 7) (h8 : ok ≠ 8)
    (hb : BytesAt w (.slice oao ob.length ocap) ob) (hdb : ob ≠ [] → ∀ b, blkOf (.slice oao ob.length ocap) = some b → b ∉ foot v S) (hm : zs.length + ob.length + 20 ≤ 140737488351232) :
    Calls Try.prog 8 #[.pointer (some ⟨wb, 0, none⟩), v, .agg #[.int .i64 ok, .int .i64 owhich, .int .i64 om, .int .u64 on, .slice oao ob.length ocap]] w fun e w' => WritesTo w w' wb B v zs S ob.length e := by
  have hk0 : Kept [] w (w.alloc (.cells #[.int .i64 ok, .int .i64 owhich, .int .i64 om, .int .u64 on, .slice oao ob.length ocap] 55)) := (Kept.refl _ w).alloc _
  have hlend := Lend_any (.slice oao ob.length ocap) ob (w.alloc (.cells #[.int .i64 ok, .int .i64 owhich, .int .i64 om, .int .u64 on, .slice oao ob.length ocap] 55)) (hb.kept hk0 (fun _ _ => by simp)) (by omega)
  have hbs : w.heap.size ∉ foot v S := fun h => absurd (D.lt _ h).2 (by omega)
  have HO : Hid (∀ w1, Kept (foot v S) (w.alloc (.cells #[.int .i64 ok, .int .i64 owhich, .int .i64 om, .int .u64 on, .slice oao ob.length ocap] 55)) w1 → w.heap.size < w1.heap.size ∧ (∀ o, w1.cell? ⟨w.heap.size, o, none⟩ = (#[.int .i64 ok, .int .i64 owhich, .int .i64 om, .int .u64 on, .slice oao ob.length ocap] : Array Value)[o]?)) := fun w1 h => h.boxed hbs
  have HV : Hid (∀ w1, Kept (foot v S) w w1 → BytesAt w1 (.slice oao ob.length ocap) ob) := fun w1 h => hb.keep h hdb
  have HD : Hid (Duo w wb B v zs S) := D
  have HS : Hid (∀ x, x ∈ foot v S → x < w.heap.size) := fun x hx => (D.lt x hx).2
  have HLN : Hid (zs.length ≤ zs.length + ob.length + 10) := by
    have : zs.length ≤ zs.length + ob.length + 10 := (by omega)
    exact this
  have e1 : (ok == 1) = false := beq_eq_false_iff_ne.2 h1
  have e2 : (ok == 2) = false := beq_eq_false_iff_ne.2 h2
  have e3 : (ok == 3) = false := beq_eq_false_iff_ne.2 h3
  have e4 : (ok == 4) = false := beq_eq_false_iff_ne.2 h4
  have e5 : (ok == 5) = false := beq_eq_false_iff_ne.2 h5
  have e6 : (ok == 6) = false := beq_eq_false_iff_ne.2 h6
  have e7 : (ok == 7) = false := beq_eq_false_iff_ne.2 h7
  have e8 : (ok == 8) = false := beq_eq_false_iff_ne.2 h8
  clear hb hdb D h1 h2 h3 h4 h5 h6 h7 h8
  go_enter Try.func8, Try.ntmps8
  go_wp2_with (first
    | (go_at_call 20; refine hlend.mono ?_; rintro e w1 ⟨g, cap, rfl, hL, hk1⟩
       have HL : Hid (Lent w1 _ g cap ob) := hL
       have HK1 : Hid (Kept [] w w1) := hk0.then hk1
       have HK0 : Hid (Kept [] _ w1) := hk1
       have hc1 := HO.out w1 (hk1.more (by simp))
       have hgr : w.heap.size ≤ g ∧ g < w1.heap.size := ⟨Nat.le_trans hk0.size (Lent.room hL).2.2.1, (Lent.room hL).2.2.2⟩
       have D1 : Hid (Duo w1 wb B v zs S) := HD.out.box HK1.out
       have hB1 : B ≤ w1.heap.size := Nat.le_trans hBw HK1.out.size
       have HL4 : Hid (Lent w1 _ g cap ob) := hL
       have hv4 := HV.out w1 (HK1.out.more (by simp))
       have HT4 : Hid (DuoTo w1 w1 wb B v S v zs S) := DuoTo.same D1.out
       clear hL hk1)
    | (go_at_call 24; refine (Intact_any HL4.out hv4 (by omega)).mono ?_; rintro e w5 ⟨rfl, rfl⟩))
  go_loopw [10] (fun i wr => ∃ k : Nat, k ≤ ob.length ∧ i = .int .i64 k ∧ Hid (Lent wr (w.alloc (.cells #[.int .i64 ok, .int .i64 owhich, .int .i64 om, .int .u64 on, .slice oao ob.length ocap] 55)).heap.size g cap (List.replicate k 238 ++ ob.drop k)) ∧ Hid (Kept [g] w5 wr)) (fun i _ => ob.length - (intOf i).toNat)
  case atStart => exact ⟨0, Nat.zero_le _, rfl, (by have h := HL4.out; rw [List.replicate_zero, List.nil_append, List.drop_zero]; exact h), Kept.refl _ _⟩
  case round =>
    obtain ⟨k, hk, rfl, HLk, HKk⟩ := hrel
    have hrl : (List.replicate k (238 : Int) ++ ob.drop k).length = ob.length := by simp; omega
    have hrm := HLk.out.room
    by_cases hlt : k < ob.length
    · have g1 := HLk.out.cell k (by omega)
      have g2 := HLk.out.frozen k
      have HT : Hid (Lent (wr.setCell ⟨g, k, none⟩ (.int .u8 238)) (w.alloc (.cells #[.int .i64 ok, .int .i64 owhich, .int .i64 om, .int .u64 on, .slice oao ob.length ocap] 55)).heap.size g cap (List.replicate (k + 1) 238 ++ ob.drop (k + 1))) := by
        have h := HLk.out.set k (by omega) 238
        rwa [fill_up ob k hlt] at h
      clear HLk
      go_wp2
      go_roundw
      case rel => exact ⟨k + 1, by omega, by go_num, HT, HKk.out.setCell (Or.inl (by simp)) _⟩
      case measure => simp [intOf]; omega
    · go_wp2
      exact bodyPost_ret (v := .tuple #[v, .bool true]) (by simp [results, Try.results8, go_sem]) rfl ⟨v, _, _, rfl, DuoTo.behind HD.out HK1.out HT4.out hgr.1 hgr.2 HKk.out, HLN.out⟩

end Go.Proofs.Ytmambfdfkobjgaa
