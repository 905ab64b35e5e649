/-
  WALK: satchellaw1.lays: one item is written, for every Writer and step.
-/
import Derived.Test.YtbflokiijfomeaaWMore
import Derived.Test.YtbflokiijfomeaaPlain4
namespace Go.Proofs.Ytbflokiijfomeaa
open Go.RowKit

theorem wrote_box {w w0 w2 : World} {wb B : Nat} {us : List Int} {S : List Nat} (k0 : Kept [] w w0) (h : Wrote w0 w2 wb B us S) : Wrote w w2 wb B us S := by
  obtain ⟨S', hS', k2, hs⟩ := h
  refine ⟨S', hS', (k0.more (by simp)).then k2, fun x hx => ?_⟩
  rcases hs x hx with h | h
  · exact Or.inl h
  · exact Or.inr (Nat.le_trans k0.size h)

set_option maxHeartbeats 1000000 in
theorem lays_u8 {w : World} {wb B : Nat} {zs : List Int} {S : List Nat} (h : WAt w wb B zs S) (hBw : B ≤ w.heap.size) (owhich om on : Int) (oao : Option Addr) (ocap : Nat) (ob : List Int) (hm : zs.length + 10 + ob.length ≤ 140737488355328) :
    Calls Try.prog 29 #[.pointer (some ⟨wb, 0, none⟩), .agg #[.int .i64 1, .int .i64 owhich, .int .i64 om, .int .u64 on, .slice oao ob.length ocap]] w fun e w' => e = .returned (.tuple #[]) ∧ Wrote w w' wb B (zs ++ fixedB (on % 256) 1) S := by
  have k0 : Kept [] w (w.alloc (.cells #[.int .i64 1, .int .i64 owhich, .int .i64 om, .int .u64 on, .slice oao ob.length ocap] 37)) := (Kept.refl _ _).alloc _
  have hsz0 : B ≤ (w.alloc (.cells #[.int .i64 1, .int .i64 owhich, .int .i64 om, .int .u64 on, .slice oao ob.length ocap] 37)).heap.size := by rw [World.size_alloc]; omega
  have hW := h.kept k0 (by simp)
  have hu := WU8_any hW hsz0 (on % 256) (by omega) (by omega) (by omega)
  have HK : Hid (Kept [] w (w.alloc (.cells #[.int .i64 1, .int .i64 owhich, .int .i64 om, .int .u64 on, .slice oao ob.length ocap] 37))) := k0
  clear h hW k0 hsz0
  go_enter Try.func29, Try.ntmps29
  go_wp2_with (go_at_call 28; refine hu.mono ?_; rintro e w2 ⟨rfl, hbo⟩)
  go_end0
  exact ⟨rfl, wrote_box HK.out hbo⟩

set_option maxHeartbeats 1000000 in
theorem lays_u32 {w : World} {wb B : Nat} {zs : List Int} {S : List Nat} (h : WAt w wb B zs S) (hBw : B ≤ w.heap.size) (owhich om on : Int) (oao : Option Addr) (ocap : Nat) (ob : List Int) (hm : zs.length + 10 + ob.length ≤ 140737488355328) :
    Calls Try.prog 29 #[.pointer (some ⟨wb, 0, none⟩), .agg #[.int .i64 2, .int .i64 owhich, .int .i64 om, .int .u64 on, .slice oao ob.length ocap]] w fun e w' => e = .returned (.tuple #[]) ∧ Wrote w w' wb B (zs ++ fixedB (on % 4294967296) 4) S := by
  have k0 : Kept [] w (w.alloc (.cells #[.int .i64 2, .int .i64 owhich, .int .i64 om, .int .u64 on, .slice oao ob.length ocap] 37)) := (Kept.refl _ _).alloc _
  have hsz0 : B ≤ (w.alloc (.cells #[.int .i64 2, .int .i64 owhich, .int .i64 om, .int .u64 on, .slice oao ob.length ocap] 37)).heap.size := by rw [World.size_alloc]; omega
  have hW := h.kept k0 (by simp)
  have hu := WU32_any hW hsz0 (on % 4294967296) (by omega) (by omega) (by omega)
  have HK : Hid (Kept [] w (w.alloc (.cells #[.int .i64 2, .int .i64 owhich, .int .i64 om, .int .u64 on, .slice oao ob.length ocap] 37))) := k0
  clear h hW k0 hsz0
  go_enter Try.func29, Try.ntmps29
  go_wp2_with (go_at_call 18; refine hu.mono ?_; rintro e w2 ⟨rfl, hbo⟩)
  go_end0
  exact ⟨rfl, wrote_box HK.out hbo⟩

set_option maxHeartbeats 1000000 in
theorem lays_u64 {w : World} {wb B : Nat} {zs : List Int} {S : List Nat} (h : WAt w wb B zs S) (hBw : B ≤ w.heap.size) (owhich om on : Int) (oao : Option Addr) (ocap : Nat) (ob : List Int) (hm : zs.length + 10 + ob.length ≤ 140737488355328) :
    Calls Try.prog 29 #[.pointer (some ⟨wb, 0, none⟩), .agg #[.int .i64 3, .int .i64 owhich, .int .i64 om, .int .u64 on, .slice oao ob.length ocap]] w fun e w' => e = .returned (.tuple #[]) ∧ Wrote w w' wb B (zs ++ fixedB on 8) S := by
  have k0 : Kept [] w (w.alloc (.cells #[.int .i64 3, .int .i64 owhich, .int .i64 om, .int .u64 on, .slice oao ob.length ocap] 37)) := (Kept.refl _ _).alloc _
  have hsz0 : B ≤ (w.alloc (.cells #[.int .i64 3, .int .i64 owhich, .int .i64 om, .int .u64 on, .slice oao ob.length ocap] 37)).heap.size := by rw [World.size_alloc]; omega
  have hW := h.kept k0 (by simp)
  have hu := WU64_any hW hsz0 on (by omega)
  have HK : Hid (Kept [] w (w.alloc (.cells #[.int .i64 3, .int .i64 owhich, .int .i64 om, .int .u64 on, .slice oao ob.length ocap] 37))) := k0
  clear h hW k0 hsz0
  go_enter Try.func29, Try.ntmps29
  go_wp2_with (go_at_call 47; refine hu.mono ?_; rintro e w2 ⟨rfl, hbo⟩)
  go_end0
  exact ⟨rfl, wrote_box HK.out hbo⟩

set_option maxHeartbeats 1000000 in
theorem lays_var {w : World} {wb B : Nat} {zs : List Int} {S : List Nat} (h : WAt w wb B zs S) (hBw : B ≤ w.heap.size) (owhich om on : Int) (oao : Option Addr) (ocap : Nat) (ob : List Int) (hn0 : 0 ≤ on) (hn1 : on ≤ 18446744073709551615) (hm : zs.length + 10 + ob.length ≤ 140737488355328) :
    Calls Try.prog 29 #[.pointer (some ⟨wb, 0, none⟩), .agg #[.int .i64 4, .int .i64 owhich, .int .i64 om, .int .u64 on, .slice oao ob.length ocap]] w fun e w' => e = .returned (.tuple #[]) ∧ Wrote w w' wb B (zs ++ varB on) S := by
  have k0 : Kept [] w (w.alloc (.cells #[.int .i64 4, .int .i64 owhich, .int .i64 om, .int .u64 on, .slice oao ob.length ocap] 37)) := (Kept.refl _ _).alloc _
  have hsz0 : B ≤ (w.alloc (.cells #[.int .i64 4, .int .i64 owhich, .int .i64 om, .int .u64 on, .slice oao ob.length ocap] 37)).heap.size := by rw [World.size_alloc]; omega
  have hW := h.kept k0 (by simp)
  have hu := WVar_any hW hsz0 on hn0 hn1 (by omega)
  have HK : Hid (Kept [] w (w.alloc (.cells #[.int .i64 4, .int .i64 owhich, .int .i64 om, .int .u64 on, .slice oao ob.length ocap] 37))) := k0
  clear h hW k0 hsz0
  go_enter Try.func29, Try.ntmps29
  go_wp2_with (go_at_call 41; refine hu.mono ?_; rintro e w2 ⟨rfl, hbo⟩)
  go_end0
  exact ⟨rfl, wrote_box HK.out hbo⟩

set_option maxHeartbeats 1000000 in
theorem lays_bytes {w : World} {wb B : Nat} {zs : List Int} {S : List Nat} (h : WAt w wb B zs S) (hBw : B ≤ w.heap.size) (owhich om on : Int) (oao : Option Addr) (ocap : Nat) (ob : List Int) (hb : BytesAt w (.slice oao ob.length ocap) ob) (hbS : ob ≠ [] → ∀ b, blkOf (.slice oao ob.length ocap) = some b → b ∉ S) (hoc : Octs ob) (hm : zs.length + 10 + ob.length ≤ 140737488355328) :
    Calls Try.prog 29 #[.pointer (some ⟨wb, 0, none⟩), .agg #[.int .i64 5, .int .i64 owhich, .int .i64 om, .int .u64 on, .slice oao ob.length ocap]] w fun e w' => e = .returned (.tuple #[]) ∧ Wrote w w' wb B (zs ++ (varB ob.length ++ ob)) S := by
  have k0 : Kept [] w (w.alloc (.cells #[.int .i64 5, .int .i64 owhich, .int .i64 om, .int .u64 on, .slice oao ob.length ocap] 37)) := (Kept.refl _ _).alloc _
  have hsz0 : B ≤ (w.alloc (.cells #[.int .i64 5, .int .i64 owhich, .int .i64 om, .int .u64 on, .slice oao ob.length ocap] 37)).heap.size := by rw [World.size_alloc]; omega
  have hW := h.kept k0 (by simp)
  have hu := (WBytes_any hW hsz0 _ ob (hb.kept k0 (fun _ _ => by simp)) hbS hoc hm)
  have HK : Hid (Kept [] w (w.alloc (.cells #[.int .i64 5, .int .i64 owhich, .int .i64 om, .int .u64 on, .slice oao ob.length ocap] 37))) := k0
  clear h hW k0 hsz0
  go_enter Try.func29, Try.ntmps29
  go_wp2_with (go_at_call 20; refine hu.mono ?_; rintro e w2 ⟨rfl, hbo⟩)
  go_end0
  rw [← List.append_assoc]
  exact ⟨rfl, wrote_box HK.out hbo⟩

set_option maxHeartbeats 1000000 in
theorem lays_raw {w : World} {wb B : Nat} {zs : List Int} {S : List Nat} (h : WAt w wb B zs S) (hBw : B ≤ w.heap.size) (owhich om on : Int) (oao : Option Addr) (ocap : Nat) (ob : List Int) (hb : BytesAt w (.slice oao ob.length ocap) ob) (hoc : Octs ob) (hm : zs.length + 10 + ob.length ≤ 140737488355328) :
    Calls Try.prog 29 #[.pointer (some ⟨wb, 0, none⟩), .agg #[.int .i64 6, .int .i64 owhich, .int .i64 om, .int .u64 on, .slice oao ob.length ocap]] w fun e w' => e = .returned (.tuple #[]) ∧ Wrote w w' wb B (zs ++ ob) S := by
  have k0 : Kept [] w (w.alloc (.cells #[.int .i64 6, .int .i64 owhich, .int .i64 om, .int .u64 on, .slice oao ob.length ocap] 37)) := (Kept.refl _ _).alloc _
  have hsz0 : B ≤ (w.alloc (.cells #[.int .i64 6, .int .i64 owhich, .int .i64 om, .int .u64 on, .slice oao ob.length ocap] 37)).heap.size := by rw [World.size_alloc]; omega
  have hW := h.kept k0 (by simp)
  have hu := (WRaw_any hW hsz0 _ ob (hb.kept k0 (fun _ _ => by simp)) hoc (by omega))
  have HK : Hid (Kept [] w (w.alloc (.cells #[.int .i64 6, .int .i64 owhich, .int .i64 om, .int .u64 on, .slice oao ob.length ocap] 37))) := k0
  clear h hW k0 hsz0
  go_enter Try.func29, Try.ntmps29
  go_wp2_with (go_at_call 42; refine hu.mono ?_; rintro e w2 ⟨rfl, hbo⟩)
  go_end0
  exact ⟨rfl, wrote_box HK.out hbo⟩

set_option maxHeartbeats 1000000 in
theorem lays_other {w : World} {wb B : Nat} {zs : List Int} {S : List Nat} (h : WAt w wb B zs S) (okind owhich om on : Int) (oao : Option Addr) (obl ocap : Nat)
    (k1 : okind ≠ 1) (k2 : okind ≠ 2) (k3 : okind ≠ 3) (k4 : okind ≠ 4) (k5 : okind ≠ 5) (k6 : okind ≠ 6) :
    Calls Try.prog 29 #[.pointer (some ⟨wb, 0, none⟩), .agg #[.int .i64 okind, .int .i64 owhich, .int .i64 om, .int .u64 on, .slice oao obl ocap]] w fun e w' => e = .returned (.tuple #[]) ∧ Wrote w w' wb B (zs ++ []) S := by
  have k0 : Kept [] w (w.alloc (.cells #[.int .i64 okind, .int .i64 owhich, .int .i64 om, .int .u64 on, .slice oao obl ocap] 37)) := (Kept.refl _ _).alloc _
  have HB : Hid (Wrote w (w.alloc (.cells #[.int .i64 okind, .int .i64 owhich, .int .i64 om, .int .u64 on, .slice oao obl ocap] 37)) wb B zs S) := wrote_box k0 (Wrote.refl (h.kept k0 (by simp)))
  have e1 : (okind == 1) = false := beq_eq_false_iff_ne.2 k1
  have e2 : (okind == 2) = false := beq_eq_false_iff_ne.2 k2
  have e3 : (okind == 3) = false := beq_eq_false_iff_ne.2 k3
  have e4 : (okind == 4) = false := beq_eq_false_iff_ne.2 k4
  have e5 : (okind == 5) = false := beq_eq_false_iff_ne.2 k5
  have e6 : (okind == 6) = false := beq_eq_false_iff_ne.2 k6
  rw [List.append_nil]
  clear h k0 k1 k2 k3 k4 k5 k6
  go_enter Try.func29, Try.ntmps29
  go_wp2
  go_end0
  exact ⟨rfl, HB.out⟩

theorem lays_any {w : World} {wb B : Nat} {zs : List Int} {S : List Nat} (h : WAt w wb B zs S) (hBw : B ≤ w.heap.size) (o : COp) (hg : COp.Good o w) (hbS : o.b ≠ [] → ∀ b, blkOf (.slice o.ao o.b.length o.cap) = some b → b ∉ S) (hm : zs.length + 10 + o.b.length ≤ 140737488355328) :
    Calls Try.prog 29 #[.pointer (some ⟨wb, 0, none⟩), .agg #[.int .i64 o.kind, .int .i64 o.which, .int .i64 o.m, .int .u64 o.n, .slice o.ao o.b.length o.cap]] w fun e w' => e = .returned (.tuple #[]) ∧ Wrote w w' wb B (zs ++ encW o) S := by
  have hn0 := hg.n0
  have hn1 := hg.n1
  have hat := hg.at'
  have hoc := hg.oct
  obtain ⟨okind, owhich, om, on, oao, ocap, ob⟩ := o
  unfold encW
  dsimp only at *
  by_cases k1 : okind = 1
  · simp only [if_pos k1]; subst k1; exact lays_u8 h hBw _ _ _ _ _ _ hm
  by_cases k2 : okind = 2
  · simp only [if_neg k1, if_pos k2]; subst k2; exact lays_u32 h hBw _ _ _ _ _ _ hm
  by_cases k3 : okind = 3
  · simp only [if_neg k1, if_neg k2, if_pos k3]; subst k3; exact lays_u64 h hBw _ _ _ _ _ _ hm
  by_cases k4 : okind = 4
  · simp only [if_neg k1, if_neg k2, if_neg k3, if_pos k4]; subst k4; exact lays_var h hBw _ _ _ _ _ _ hn0 hn1 hm
  by_cases k5 : okind = 5
  · simp only [if_neg k1, if_neg k2, if_neg k3, if_neg k4, if_pos k5]; subst k5; exact lays_bytes h hBw _ _ _ _ _ _ hat hbS hoc hm
  by_cases k6 : okind = 6
  · simp only [if_neg k1, if_neg k2, if_neg k3, if_neg k4, if_neg k5, if_pos k6]; subst k6; exact lays_raw h hBw _ _ _ _ _ _ hat hoc hm
  simp only [if_neg k1, if_neg k2, if_neg k3, if_neg k4, if_neg k5, if_neg k6]
  exact lays_other h _ _ _ _ _ _ _ k1 k2 k3 k4 k5 k6

end Go.Proofs.Ytbflokiijfomeaa
