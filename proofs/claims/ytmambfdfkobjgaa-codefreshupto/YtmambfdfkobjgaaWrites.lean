/-
  WALKS: satchellaw1.writes: one step is laid into the program's Writer and into the document's own list, for every two that hold the same bytes, and every step: the numbers.
-/
import Derived.Test.YtmambfdfkobjgaaDuo
namespace Go.Proofs.Ytmambfdfkobjgaa
open Go.RowKit

set_option maxRecDepth 100000 in
set_option maxHeartbeats 2000000 in
theorem writes_u8 {w : World} {wb B : Nat} {v : Value} {zs : List Int} {S : List Nat} (D : Duo w wb B v zs S) (hBw : B ≤ w.heap.size) (owhich om on : Int) (oao : Option Addr) (ocap : Nat) (ob : List Int)
    (hb : BytesAt w (.slice oao ob.length ocap) ob) (hdb : ob ≠ [] → ∀ b, blkOf (.slice oao ob.length ocap) = some b → b ∉ foot v S) (hm : zs.length + ob.length + 20 ≤ 140737488351232) :
    Calls Try.prog 8 #[.pointer (some ⟨wb, 0, none⟩), v, .agg #[.int .i64 1, .int .i64 owhich, .int .i64 om, .int .u64 on, .slice oao ob.length ocap]] w fun e w' => WritesTo w w' wb B v zs S ob.length e := by
  have hk0 : Kept [] w (w.alloc (.cells #[.int .i64 1, .int .i64 owhich, .int .i64 om, .int .u64 on, .slice oao ob.length ocap] 55)) := (Kept.refl _ w).alloc _
  have hlend := Lend_any (.slice oao ob.length ocap) ob (w.alloc (.cells #[.int .i64 1, .int .i64 owhich, .int .i64 om, .int .u64 on, .slice oao ob.length ocap] 55)) (hb.kept hk0 (fun _ _ => by simp)) (by omega)
  have hbs : w.heap.size ∉ foot v S := fun h => absurd (D.lt _ h).2 (by omega)
  have HO : Hid (∀ w1, Kept (foot v S) (w.alloc (.cells #[.int .i64 1, .int .i64 owhich, .int .i64 om, .int .u64 on, .slice oao ob.length ocap] 55)) w1 → w.heap.size < w1.heap.size ∧ (∀ o, w1.cell? ⟨w.heap.size, o, none⟩ = (#[.int .i64 1, .int .i64 owhich, .int .i64 om, .int .u64 on, .slice oao ob.length ocap] : Array Value)[o]?)) := fun w1 h => h.boxed hbs
  have HV : Hid (∀ w1, Kept (foot v S) w w1 → BytesAt w1 (.slice oao ob.length ocap) ob) := fun w1 h => hb.keep h hdb
  have HD : Hid (Duo w wb B v zs S) := D
  have HS : Hid (∀ x, x ∈ foot v S → x < w.heap.size) := fun x hx => (D.lt x hx).2
  have r1 : IntKind.u8.wrap on = on % 256 := IntKind.wrap_u8' on
  obtain ⟨n8, h8⟩ : ∃ n8, n8 = on % 256 := ⟨_, rfl⟩
  rw [← h8] at r1
  have hn0 : 0 ≤ n8 := by omega
  have hn1 : n8 ≤ 255 := by omega
  clear h8
  have hlen : zs.length + (fixedB n8 1).length ≤ 140737488355328 := by rw [fixedB_len]; omega
  have HLN : Hid ((zs ++ fixedB n8 1).length ≤ zs.length + ob.length + 10) := by have : (zs ++ fixedB n8 1).length ≤ zs.length + ob.length + 10 := (by rw [List.length_append, fixedB_len]; omega); exact this
  clear hb hdb D
  go_enter Try.func8, Try.ntmps8
  go_wp2_with (first
    | (go_at_call 20; refine hlend.mono ?_; rintro e w1 ⟨g, cap, rfl, hL, hk1⟩
       have HL : Hid (Lent w1 _ g cap ob) := hL
       have HK1 : Hid (Kept [] w w1) := hk0.then hk1
       have HK0 : Hid (Kept [] _ w1) := hk1
       have hc1 := HO.out w1 (hk1.more (by simp))
       have hgr : w.heap.size ≤ g ∧ g < w1.heap.size := ⟨Nat.le_trans hk0.size (Lent.room hL).2.2.1, (Lent.room hL).2.2.2⟩
       have D1 : Hid (Duo w1 wb B v zs S) := HD.out.box HK1.out
       have hB1 : B ≤ w1.heap.size := Nat.le_trans hBw HK1.out.size
       clear hL hk1)
    | (go_at_call 26; refine (WU8_any D1.out.wr hB1 n8 hn0 hn1 (by omega)).mono ?_; rintro e w2 ⟨rfl, hw2⟩
       have HW2 : Hid (Wrote w1 w2 wb B (zs ++ fixedB n8 1) S) := hw2
       have kf : Kept (foot v S) w1 w2 := hw2.k.more fun x hx => mem_foot.2 (Or.inl hx)
       have HF2 : Hid (Kept (foot v S) w1 w2) := kf
       have HO2 : Hid (OwnB w2 B v zs) := D1.out.own.kept hw2.k D1.out.dis
       have hc2 := HO.out w2 ((HK0.out.more (by simp)).then kf)
       clear hw2 kf)
    | (go_at_call 27; refine (RU8_any n8 w2 hn0 hn1).mono ?_; rintro e w3 ⟨u, rfl, hu, hk3⟩
       have hu3 : Hid (BytesAt w3 u (fixedB n8 1)) := hu.bytes
       have HK3 : Hid (Kept [] w2 w3) := hk3
       have HO3 : Hid (OwnB w3 B v zs) := HO2.out.kept hk3 (by simp)
       have hB3 : B ≤ w3.heap.size := Nat.le_trans hB1 (Nat.le_trans HF2.out.size hk3.size)
       clear hu hk3)
    | (at_builtin; refine wpList_append_bytes rfl (.tmp 23) (.tmp 27) rfl rfl HO3.out rfl hu3.out hlen hB3 ?_; intro v' w4 ha
       obtain ⟨S', hT4⟩ := D1.out.lay HW2.out HK3.out ha
       have HT4 : Hid _ := hT4
       have HL4 : Hid (Lent w4 _ g cap ob) := Lent.kept HL.out hT4.kept (fun h => absurd (HS.out g h) (by omega))
       have hv4 := HV.out w4 ((HK1.out.more (by simp)).then hT4.kept)
       have hc4 := HO.out w4 ((HK0.out.more (by simp)).then hT4.kept)
       clear ha hT4)
    | (go_at_call 24; refine (Intact_any HL4.out hv4 (by omega)).mono ?_; rintro e w5 ⟨rfl, rfl⟩))
  go_loopw [10] (fun i wr => ∃ k : Nat, k ≤ ob.length ∧ i = .int .i64 k ∧ Hid (Lent wr (w.alloc (.cells #[.int .i64 1, .int .i64 owhich, .int .i64 om, .int .u64 on, .slice oao ob.length ocap] 55)).heap.size g cap (List.replicate k 238 ++ ob.drop k)) ∧ Hid (Kept [g] w5 wr)) (fun i _ => ob.length - (intOf i).toNat)
  case atStart => exact ⟨0, Nat.zero_le _, rfl, (by have h := HL4.out; rw [List.replicate_zero, List.nil_append, List.drop_zero]; exact h), Kept.refl _ _⟩
  case round =>
    obtain ⟨k, hk, rfl, HLk, HKk⟩ := hrel
    have hrl : (List.replicate k (238 : Int) ++ ob.drop k).length = ob.length := by simp; omega
    have hrm := HLk.out.room
    by_cases hlt : k < ob.length
    · have g1 := HLk.out.cell k (by omega)
      have g2 := HLk.out.frozen k
      have HT : Hid (Lent (wr.setCell ⟨g, k, none⟩ (.int .u8 238)) (w.alloc (.cells #[.int .i64 1, .int .i64 owhich, .int .i64 om, .int .u64 on, .slice oao ob.length ocap] 55)).heap.size g cap (List.replicate (k + 1) 238 ++ ob.drop (k + 1))) := by
        have h := HLk.out.set k (by omega) 238
        rwa [fill_up ob k hlt] at h
      clear HLk
      go_wp2
      go_roundw
      case rel => exact ⟨k + 1, by omega, by go_num, HT, HKk.out.setCell (Or.inl (by simp)) _⟩
      case measure => simp [intOf]; omega
    · go_wp2
      exact bodyPost_ret (v := .tuple #[v', .bool true]) (by simp [results, Try.results8, go_sem]) rfl ⟨v', _, _, rfl, DuoTo.behind HD.out HK1.out HT4.out hgr.1 hgr.2 HKk.out, HLN.out⟩

set_option maxRecDepth 100000 in
set_option maxHeartbeats 2000000 in
theorem writes_u32 {w : World} {wb B : Nat} {v : Value} {zs : List Int} {S : List Nat} (D : Duo w wb B v zs S) (hBw : B ≤ w.heap.size) (owhich om on : Int) (oao : Option Addr) (ocap : Nat) (ob : List Int)
    (hb : BytesAt w (.slice oao ob.length ocap) ob) (hdb : ob ≠ [] → ∀ b, blkOf (.slice oao ob.length ocap) = some b → b ∉ foot v S) (hm : zs.length + ob.length + 20 ≤ 140737488351232) :
    Calls Try.prog 8 #[.pointer (some ⟨wb, 0, none⟩), v, .agg #[.int .i64 2, .int .i64 owhich, .int .i64 om, .int .u64 on, .slice oao ob.length ocap]] w fun e w' => WritesTo w w' wb B v zs S ob.length e := by
  have hk0 : Kept [] w (w.alloc (.cells #[.int .i64 2, .int .i64 owhich, .int .i64 om, .int .u64 on, .slice oao ob.length ocap] 55)) := (Kept.refl _ w).alloc _
  have hlend := Lend_any (.slice oao ob.length ocap) ob (w.alloc (.cells #[.int .i64 2, .int .i64 owhich, .int .i64 om, .int .u64 on, .slice oao ob.length ocap] 55)) (hb.kept hk0 (fun _ _ => by simp)) (by omega)
  have hbs : w.heap.size ∉ foot v S := fun h => absurd (D.lt _ h).2 (by omega)
  have HO : Hid (∀ w1, Kept (foot v S) (w.alloc (.cells #[.int .i64 2, .int .i64 owhich, .int .i64 om, .int .u64 on, .slice oao ob.length ocap] 55)) w1 → w.heap.size < w1.heap.size ∧ (∀ o, w1.cell? ⟨w.heap.size, o, none⟩ = (#[.int .i64 2, .int .i64 owhich, .int .i64 om, .int .u64 on, .slice oao ob.length ocap] : Array Value)[o]?)) := fun w1 h => h.boxed hbs
  have HV : Hid (∀ w1, Kept (foot v S) w w1 → BytesAt w1 (.slice oao ob.length ocap) ob) := fun w1 h => hb.keep h hdb
  have HD : Hid (Duo w wb B v zs S) := D
  have HS : Hid (∀ x, x ∈ foot v S → x < w.heap.size) := fun x hx => (D.lt x hx).2
  have r1 : IntKind.u32.wrap on = on % 4294967296 := IntKind.wrap_u32' on
  obtain ⟨n8, h8⟩ : ∃ n8, n8 = on % 4294967296 := ⟨_, rfl⟩
  rw [← h8] at r1
  have hn0 : 0 ≤ n8 := by omega
  have hn1 : n8 ≤ 4294967295 := by omega
  clear h8
  have hlen : zs.length + (fixedB n8 4).length ≤ 140737488355328 := by rw [fixedB_len]; omega
  have HLN : Hid ((zs ++ fixedB n8 4).length ≤ zs.length + ob.length + 10) := by
    have : (zs ++ fixedB n8 4).length ≤ zs.length + ob.length + 10 := (by rw [List.length_append]; rw [fixedB_len]; omega)
    exact this
  clear hb hdb D
  go_enter Try.func8, Try.ntmps8
  go_wp2_with (first
    | (go_at_call 20; refine hlend.mono ?_; rintro e w1 ⟨g, cap, rfl, hL, hk1⟩
       have HL : Hid (Lent w1 _ g cap ob) := hL
       have HK1 : Hid (Kept [] w w1) := hk0.then hk1
       have HK0 : Hid (Kept [] _ w1) := hk1
       have hc1 := HO.out w1 (hk1.more (by simp))
       have hgr : w.heap.size ≤ g ∧ g < w1.heap.size := ⟨Nat.le_trans hk0.size (Lent.room hL).2.2.1, (Lent.room hL).2.2.2⟩
       have D1 : Hid (Duo w1 wb B v zs S) := HD.out.box HK1.out
       have hB1 : B ≤ w1.heap.size := Nat.le_trans hBw HK1.out.size
       clear hL hk1)
    | (go_at_call 28; refine (WU32_any D1.out.wr hB1 n8 hn0 hn1 (by omega)).mono ?_; rintro e w2 ⟨rfl, hw2⟩
       have HW2 : Hid (Wrote w1 w2 wb B (zs ++ fixedB n8 4) S) := hw2
       have kf : Kept (foot v S) w1 w2 := hw2.k.more fun x hx => mem_foot.2 (Or.inl hx)
       have HF2 : Hid (Kept (foot v S) w1 w2) := kf
       have HO2 : Hid (OwnB w2 B v zs) := D1.out.own.kept hw2.k D1.out.dis
       have hc2 := HO.out w2 ((HK0.out.more (by simp)).then kf)
       clear hw2 kf)
    | (go_at_call 29; refine (RU32_any n8 w2 hn0 hn1).mono ?_; rintro e w3 ⟨u, rfl, hu, hk3⟩
       have hu3 : Hid (BytesAt w3 u (fixedB n8 4)) := hu.bytes
       have HK3 : Hid (Kept [] w2 w3) := hk3
       have HO3 : Hid (OwnB w3 B v zs) := HO2.out.kept hk3 (by simp)
       have hB3 : B ≤ w3.heap.size := Nat.le_trans hB1 (Nat.le_trans HF2.out.size hk3.size)
       clear hu hk3)
    | (at_builtin; refine wpList_append_bytes rfl (.tmp 36) (.tmp 40) rfl rfl HO3.out rfl hu3.out hlen hB3 ?_; intro v' w4 ha
       obtain ⟨S', hT4⟩ := D1.out.lay HW2.out HK3.out ha
       have HT4 : Hid _ := hT4
       have HL4 : Hid (Lent w4 _ g cap ob) := Lent.kept HL.out hT4.kept (fun h => absurd (HS.out g h) (by omega))
       have hv4 := HV.out w4 ((HK1.out.more (by simp)).then hT4.kept)
       have hc4 := HO.out w4 ((HK0.out.more (by simp)).then hT4.kept)
       clear ha hT4)
    | (go_at_call 24; refine (Intact_any HL4.out hv4 (by omega)).mono ?_; rintro e w5 ⟨rfl, rfl⟩))
  go_loopw [10] (fun i wr => ∃ k : Nat, k ≤ ob.length ∧ i = .int .i64 k ∧ Hid (Lent wr (w.alloc (.cells #[.int .i64 2, .int .i64 owhich, .int .i64 om, .int .u64 on, .slice oao ob.length ocap] 55)).heap.size g cap (List.replicate k 238 ++ ob.drop k)) ∧ Hid (Kept [g] w5 wr)) (fun i _ => ob.length - (intOf i).toNat)
  case atStart => exact ⟨0, Nat.zero_le _, rfl, (by have h := HL4.out; rw [List.replicate_zero, List.nil_append, List.drop_zero]; exact h), Kept.refl _ _⟩
  case round =>
    obtain ⟨k, hk, rfl, HLk, HKk⟩ := hrel
    have hrl : (List.replicate k (238 : Int) ++ ob.drop k).length = ob.length := by simp; omega
    have hrm := HLk.out.room
    by_cases hlt : k < ob.length
    · have g1 := HLk.out.cell k (by omega)
      have g2 := HLk.out.frozen k
      have HT : Hid (Lent (wr.setCell ⟨g, k, none⟩ (.int .u8 238)) (w.alloc (.cells #[.int .i64 2, .int .i64 owhich, .int .i64 om, .int .u64 on, .slice oao ob.length ocap] 55)).heap.size g cap (List.replicate (k + 1) 238 ++ ob.drop (k + 1))) := by
        have h := HLk.out.set k (by omega) 238
        rwa [fill_up ob k hlt] at h
      clear HLk
      go_wp2
      go_roundw
      case rel => exact ⟨k + 1, by omega, by go_num, HT, HKk.out.setCell (Or.inl (by simp)) _⟩
      case measure => simp [intOf]; omega
    · go_wp2
      exact bodyPost_ret (v := .tuple #[v', .bool true]) (by simp [results, Try.results8, go_sem]) rfl ⟨v', _, _, rfl, DuoTo.behind HD.out HK1.out HT4.out hgr.1 hgr.2 HKk.out, HLN.out⟩

set_option maxRecDepth 100000 in
set_option maxHeartbeats 2000000 in
theorem writes_u64 {w : World} {wb B : Nat} {v : Value} {zs : List Int} {S : List Nat} (D : Duo w wb B v zs S) (hBw : B ≤ w.heap.size) (owhich om on : Int) (on0 : 0 ≤ on) (on1 : on ≤ 18446744073709551615) (oao : Option Addr) (ocap : Nat) (ob : List Int)
    (hb : BytesAt w (.slice oao ob.length ocap) ob) (hdb : ob ≠ [] → ∀ b, blkOf (.slice oao ob.length ocap) = some b → b ∉ foot v S) (hm : zs.length + ob.length + 20 ≤ 140737488351232) :
    Calls Try.prog 8 #[.pointer (some ⟨wb, 0, none⟩), v, .agg #[.int .i64 3, .int .i64 owhich, .int .i64 om, .int .u64 on, .slice oao ob.length ocap]] w fun e w' => WritesTo w w' wb B v zs S ob.length e := by
  have hk0 : Kept [] w (w.alloc (.cells #[.int .i64 3, .int .i64 owhich, .int .i64 om, .int .u64 on, .slice oao ob.length ocap] 55)) := (Kept.refl _ w).alloc _
  have hlend := Lend_any (.slice oao ob.length ocap) ob (w.alloc (.cells #[.int .i64 3, .int .i64 owhich, .int .i64 om, .int .u64 on, .slice oao ob.length ocap] 55)) (hb.kept hk0 (fun _ _ => by simp)) (by omega)
  have hbs : w.heap.size ∉ foot v S := fun h => absurd (D.lt _ h).2 (by omega)
  have HO : Hid (∀ w1, Kept (foot v S) (w.alloc (.cells #[.int .i64 3, .int .i64 owhich, .int .i64 om, .int .u64 on, .slice oao ob.length ocap] 55)) w1 → w.heap.size < w1.heap.size ∧ (∀ o, w1.cell? ⟨w.heap.size, o, none⟩ = (#[.int .i64 3, .int .i64 owhich, .int .i64 om, .int .u64 on, .slice oao ob.length ocap] : Array Value)[o]?)) := fun w1 h => h.boxed hbs
  have HV : Hid (∀ w1, Kept (foot v S) w w1 → BytesAt w1 (.slice oao ob.length ocap) ob) := fun w1 h => hb.keep h hdb
  have HD : Hid (Duo w wb B v zs S) := D
  have HS : Hid (∀ x, x ∈ foot v S → x < w.heap.size) := fun x hx => (D.lt x hx).2
  have hlen : zs.length + (fixedB on 8).length ≤ 140737488355328 := by rw [fixedB_len]; omega
  have HLN : Hid ((zs ++ fixedB on 8).length ≤ zs.length + ob.length + 10) := by
    have : (zs ++ fixedB on 8).length ≤ zs.length + ob.length + 10 := (by rw [List.length_append]; rw [fixedB_len]; omega)
    exact this
  clear hb hdb D
  go_enter Try.func8, Try.ntmps8
  go_wp2_with (first
    | (go_at_call 20; refine hlend.mono ?_; rintro e w1 ⟨g, cap, rfl, hL, hk1⟩
       have HL : Hid (Lent w1 _ g cap ob) := hL
       have HK1 : Hid (Kept [] w w1) := hk0.then hk1
       have HK0 : Hid (Kept [] _ w1) := hk1
       have hc1 := HO.out w1 (hk1.more (by simp))
       have hgr : w.heap.size ≤ g ∧ g < w1.heap.size := ⟨Nat.le_trans hk0.size (Lent.room hL).2.2.1, (Lent.room hL).2.2.2⟩
       have D1 : Hid (Duo w1 wb B v zs S) := HD.out.box HK1.out
       have hB1 : B ≤ w1.heap.size := Nat.le_trans hBw HK1.out.size
       clear hL hk1)
    | (go_at_call 30; refine (WU64_any D1.out.wr hB1 on (by omega)).mono ?_; rintro e w2 ⟨rfl, hw2⟩
       have HW2 : Hid (Wrote w1 w2 wb B (zs ++ fixedB on 8) S) := hw2
       have kf : Kept (foot v S) w1 w2 := hw2.k.more fun x hx => mem_foot.2 (Or.inl hx)
       have HF2 : Hid (Kept (foot v S) w1 w2) := kf
       have HO2 : Hid (OwnB w2 B v zs) := D1.out.own.kept hw2.k D1.out.dis
       have hc2 := HO.out w2 ((HK0.out.more (by simp)).then kf)
       clear hw2 kf)
    | (go_at_call 31; refine (RU64_any on w2 on0 on1).mono ?_; rintro e w3 ⟨u, rfl, hu, hk3⟩
       have hu3 : Hid (BytesAt w3 u (fixedB on 8)) := hu.bytes
       have HK3 : Hid (Kept [] w2 w3) := hk3
       have HO3 : Hid (OwnB w3 B v zs) := HO2.out.kept hk3 (by simp)
       have hB3 : B ≤ w3.heap.size := Nat.le_trans hB1 (Nat.le_trans HF2.out.size hk3.size)
       clear hu hk3)
    | (at_builtin; refine wpList_append_bytes rfl (.tmp 48) (.tmp 51) rfl rfl HO3.out rfl hu3.out hlen hB3 ?_; intro v' w4 ha
       obtain ⟨S', hT4⟩ := D1.out.lay HW2.out HK3.out ha
       have HT4 : Hid _ := hT4
       have HL4 : Hid (Lent w4 _ g cap ob) := Lent.kept HL.out hT4.kept (fun h => absurd (HS.out g h) (by omega))
       have hv4 := HV.out w4 ((HK1.out.more (by simp)).then hT4.kept)
       have hc4 := HO.out w4 ((HK0.out.more (by simp)).then hT4.kept)
       clear ha hT4)
    | (go_at_call 24; refine (Intact_any HL4.out hv4 (by omega)).mono ?_; rintro e w5 ⟨rfl, rfl⟩))
  go_loopw [10] (fun i wr => ∃ k : Nat, k ≤ ob.length ∧ i = .int .i64 k ∧ Hid (Lent wr (w.alloc (.cells #[.int .i64 3, .int .i64 owhich, .int .i64 om, .int .u64 on, .slice oao ob.length ocap] 55)).heap.size g cap (List.replicate k 238 ++ ob.drop k)) ∧ Hid (Kept [g] w5 wr)) (fun i _ => ob.length - (intOf i).toNat)
  case atStart => exact ⟨0, Nat.zero_le _, rfl, (by have h := HL4.out; rw [List.replicate_zero, List.nil_append, List.drop_zero]; exact h), Kept.refl _ _⟩
  case round =>
    obtain ⟨k, hk, rfl, HLk, HKk⟩ := hrel
    have hrl : (List.replicate k (238 : Int) ++ ob.drop k).length = ob.length := by simp; omega
    have hrm := HLk.out.room
    by_cases hlt : k < ob.length
    · have g1 := HLk.out.cell k (by omega)
      have g2 := HLk.out.frozen k
      have HT : Hid (Lent (wr.setCell ⟨g, k, none⟩ (.int .u8 238)) (w.alloc (.cells #[.int .i64 3, .int .i64 owhich, .int .i64 om, .int .u64 on, .slice oao ob.length ocap] 55)).heap.size g cap (List.replicate (k + 1) 238 ++ ob.drop (k + 1))) := by
        have h := HLk.out.set k (by omega) 238
        rwa [fill_up ob k hlt] at h
      clear HLk
      go_wp2
      go_roundw
      case rel => exact ⟨k + 1, by omega, by go_num, HT, HKk.out.setCell (Or.inl (by simp)) _⟩
      case measure => simp [intOf]; omega
    · go_wp2
      exact bodyPost_ret (v := .tuple #[v', .bool true]) (by simp [results, Try.results8, go_sem]) rfl ⟨v', _, _, rfl, DuoTo.behind HD.out HK1.out HT4.out hgr.1 hgr.2 HKk.out, HLN.out⟩

set_option maxRecDepth 100000 in
set_option maxHeartbeats 2000000 in
theorem writes_var {w : World} {wb B : Nat} {v : Value} {zs : List Int} {S : List Nat} (D : Duo w wb B v zs S) (hBw : B ≤ w.heap.size) (owhich om on : Int) (on0 : 0 ≤ on) (on1 : on ≤ 18446744073709551615) (oao : Option Addr) (ocap : Nat) (ob : List Int)
    (hb : BytesAt w (.slice oao ob.length ocap) ob) (hdb : ob ≠ [] → ∀ b, blkOf (.slice oao ob.length ocap) = some b → b ∉ foot v S) (hm : zs.length + ob.length + 20 ≤ 140737488351232) :
    Calls Try.prog 8 #[.pointer (some ⟨wb, 0, none⟩), v, .agg #[.int .i64 4, .int .i64 owhich, .int .i64 om, .int .u64 on, .slice oao ob.length ocap]] w fun e w' => WritesTo w w' wb B v zs S ob.length e := by
  have hk0 : Kept [] w (w.alloc (.cells #[.int .i64 4, .int .i64 owhich, .int .i64 om, .int .u64 on, .slice oao ob.length ocap] 55)) := (Kept.refl _ w).alloc _
  have hlend := Lend_any (.slice oao ob.length ocap) ob (w.alloc (.cells #[.int .i64 4, .int .i64 owhich, .int .i64 om, .int .u64 on, .slice oao ob.length ocap] 55)) (hb.kept hk0 (fun _ _ => by simp)) (by omega)
  have hbs : w.heap.size ∉ foot v S := fun h => absurd (D.lt _ h).2 (by omega)
  have HO : Hid (∀ w1, Kept (foot v S) (w.alloc (.cells #[.int .i64 4, .int .i64 owhich, .int .i64 om, .int .u64 on, .slice oao ob.length ocap] 55)) w1 → w.heap.size < w1.heap.size ∧ (∀ o, w1.cell? ⟨w.heap.size, o, none⟩ = (#[.int .i64 4, .int .i64 owhich, .int .i64 om, .int .u64 on, .slice oao ob.length ocap] : Array Value)[o]?)) := fun w1 h => h.boxed hbs
  have HV : Hid (∀ w1, Kept (foot v S) w w1 → BytesAt w1 (.slice oao ob.length ocap) ob) := fun w1 h => hb.keep h hdb
  have HD : Hid (Duo w wb B v zs S) := D
  have HS : Hid (∀ x, x ∈ foot v S → x < w.heap.size) := fun x hx => (D.lt x hx).2
  have hvl := varB_len on on0 on1
  have hlen : zs.length + (varB on).length ≤ 140737488355328 := by omega
  have HLN : Hid ((zs ++ varB on).length ≤ zs.length + ob.length + 10) := by
    have : (zs ++ varB on).length ≤ zs.length + ob.length + 10 := (by rw [List.length_append]; omega)
    exact this
  clear hb hdb D
  go_enter Try.func8, Try.ntmps8
  go_wp2_with (first
    | (go_at_call 20; refine hlend.mono ?_; rintro e w1 ⟨g, cap, rfl, hL, hk1⟩
       have HL : Hid (Lent w1 _ g cap ob) := hL
       have HK1 : Hid (Kept [] w w1) := hk0.then hk1
       have HK0 : Hid (Kept [] _ w1) := hk1
       have hc1 := HO.out w1 (hk1.more (by simp))
       have hgr : w.heap.size ≤ g ∧ g < w1.heap.size := ⟨Nat.le_trans hk0.size (Lent.room hL).2.2.1, (Lent.room hL).2.2.2⟩
       have D1 : Hid (Duo w1 wb B v zs S) := HD.out.box HK1.out
       have hB1 : B ≤ w1.heap.size := Nat.le_trans hBw HK1.out.size
       clear hL hk1)
    | (go_at_call 32; refine (WVar_any D1.out.wr hB1 on on0 on1 (by omega)).mono ?_; rintro e w2 ⟨rfl, hw2⟩
       have HW2 : Hid (Wrote w1 w2 wb B (zs ++ varB on) S) := hw2
       have kf : Kept (foot v S) w1 w2 := hw2.k.more fun x hx => mem_foot.2 (Or.inl hx)
       have HF2 : Hid (Kept (foot v S) w1 w2) := kf
       have HO2 : Hid (OwnB w2 B v zs) := D1.out.own.kept hw2.k D1.out.dis
       have hc2 := HO.out w2 ((HK0.out.more (by simp)).then kf)
       clear hw2 kf)
    | (go_at_call 33; refine (RVar_any _ on w2 on0 on1 (Nat.le_refl _)).mono ?_; rintro e w3 ⟨u, rfl, hu, hk3⟩
       have hu3 : Hid (BytesAt w3 u (varB on)) := hu.bytes
       have HK3 : Hid (Kept [] w2 w3) := hk3
       have HO3 : Hid (OwnB w3 B v zs) := HO2.out.kept hk3 (by simp)
       have hB3 : B ≤ w3.heap.size := Nat.le_trans hB1 (Nat.le_trans HF2.out.size hk3.size)
       clear hu hk3)
    | (at_builtin; refine wpList_append_bytes rfl (.tmp 59) (.tmp 62) rfl rfl HO3.out rfl hu3.out hlen hB3 ?_; intro v' w4 ha
       obtain ⟨S', hT4⟩ := D1.out.lay HW2.out HK3.out ha
       have HT4 : Hid _ := hT4
       have HL4 : Hid (Lent w4 _ g cap ob) := Lent.kept HL.out hT4.kept (fun h => absurd (HS.out g h) (by omega))
       have hv4 := HV.out w4 ((HK1.out.more (by simp)).then hT4.kept)
       have hc4 := HO.out w4 ((HK0.out.more (by simp)).then hT4.kept)
       clear ha hT4)
    | (go_at_call 24; refine (Intact_any HL4.out hv4 (by omega)).mono ?_; rintro e w5 ⟨rfl, rfl⟩))
  go_loopw [10] (fun i wr => ∃ k : Nat, k ≤ ob.length ∧ i = .int .i64 k ∧ Hid (Lent wr (w.alloc (.cells #[.int .i64 4, .int .i64 owhich, .int .i64 om, .int .u64 on, .slice oao ob.length ocap] 55)).heap.size g cap (List.replicate k 238 ++ ob.drop k)) ∧ Hid (Kept [g] w5 wr)) (fun i _ => ob.length - (intOf i).toNat)
  case atStart => exact ⟨0, Nat.zero_le _, rfl, (by have h := HL4.out; rw [List.replicate_zero, List.nil_append, List.drop_zero]; exact h), Kept.refl _ _⟩
  case round =>
    obtain ⟨k, hk, rfl, HLk, HKk⟩ := hrel
    have hrl : (List.replicate k (238 : Int) ++ ob.drop k).length = ob.length := by simp; omega
    have hrm := HLk.out.room
    by_cases hlt : k < ob.length
    · have g1 := HLk.out.cell k (by omega)
      have g2 := HLk.out.frozen k
      have HT : Hid (Lent (wr.setCell ⟨g, k, none⟩ (.int .u8 238)) (w.alloc (.cells #[.int .i64 4, .int .i64 owhich, .int .i64 om, .int .u64 on, .slice oao ob.length ocap] 55)).heap.size g cap (List.replicate (k + 1) 238 ++ ob.drop (k + 1))) := by
        have h := HLk.out.set k (by omega) 238
        rwa [fill_up ob k hlt] at h
      clear HLk
      go_wp2
      go_roundw
      case rel => exact ⟨k + 1, by omega, by go_num, HT, HKk.out.setCell (Or.inl (by simp)) _⟩
      case measure => simp [intOf]; omega
    · go_wp2
      exact bodyPost_ret (v := .tuple #[v', .bool true]) (by simp [results, Try.results8, go_sem]) rfl ⟨v', _, _, rfl, DuoTo.behind HD.out HK1.out HT4.out hgr.1 hgr.2 HKk.out, HLN.out⟩

end Go.Proofs.Ytmambfdfkobjgaa
