/-
  WALKS: satchellaw1.back: an item is read back and held against what was written, for every Reader and step.
-/
import Derived.Test.YtbflokiijfomeaaAgainWalk
import Derived.Test.YtbflokiijfomeaaPlain4
import Derived.Test.YtbflokiijfomeaaEqAny
import Derived.Deep.RegionWith
import Derived.Deep.DrawnRows
namespace Go.Proofs.Ytbflokiijfomeaa
open Go.RowKit
attribute [local go_sem ↓] Go.wp_at_zero Go.wp_at_succ

/-- The block that was laid last ahead of a call that writes to one old block alone. -/
theorem Kept.lastR {w w1 : World} {c : Array Value} {t : TypeId} {r : Nat} (h : Kept [r] (w.alloc (.cells c t)) w1) (hr : r < w.heap.size) :
    w.heap.size < w1.heap.size ∧ (∀ o, w1.cell? ⟨w.heap.size, o, none⟩ = c[o]?) := by
  have hb : w1.heap[w.heap.size]? = some (.cells c t (0, 0)) := h.heap (heap_alloc_new w _) (by simp; omega)
  exact ⟨lt_of_block hb, fun o => cell_of_row _ _ _ _ _ _ hb⟩

theorem Kept.undrew {S : List Nat} {w w1 : World} (h : Kept S w.drew w1) : Kept S w w1 := ⟨h.os, h.tape, h.output, h.size, h.block⟩
theorem Rdr.drew {w : World} {r g : Nat} {xs : List Int} {pl f : Nat} (R : Rdr w r g xs pl f) : Rdr w.drew r g xs pl f := R.kept (S := []) (Kept.refl _ _).drew (by simp) (by simp)

/-- What 'back' comes to. -/
def BackTo (w w' : World) (r g : Nat) (xs : List Int) (y : Took) (o : COp) (e : Ending) : Prop :=
  ∃ res, e = .returned (.bool res) ∧ (y.n = wantN o → y.text = wantT o → res = true) ∧ Rdr w' r g xs y.pl y.f ∧ Kept [r] w w'

set_option maxRecDepth 100000 in
set_option maxHeartbeats 1000000 in
theorem back_u8 {w : World} {r g : Nat} {xs : List Int} {pl f : Nat} (R : Rdr w r g xs pl f) (owhich om on : Int) (oao : Option Addr) (ocap : Nat) (ob : List Int) (y : Took) (hy : Hid (y = takeL xs pl f 0 1 0)) :
    Calls Try.prog 31 #[.pointer (some ⟨r, 0, none⟩), .agg #[.int .i64 1, .int .i64 owhich, .int .i64 om, .int .u64 on, .slice oao ob.length ocap]] w fun e w' => BackTo w w' r g xs y ⟨1, owhich, om, on, oao, ocap, ob⟩ e := by
  have hrl := lt_of_block R.blk
  have HK : Hid (Kept [r] w (w.alloc (.cells #[.int .i64 1, .int .i64 owhich, .int .i64 om, .int .u64 on, .slice oao ob.length ocap] 37))) := (Kept.refl _ _).alloc _
  have R0 := (R.kept (S := []) ((Kept.refl _ w).alloc (.cells #[.int .i64 1, .int .i64 owhich, .int .i64 om, .int .u64 on, .slice oao ob.length ocap] 37)) (by simp) (by simp)).drew
  have hu := U8_any R0 y hy
  clear R hy R0
  go_enter Try.func31, Try.ntmps31
  go_wp2
  go_region_with (go_at_call 30; refine hu.mono ?_; rintro e w1 ⟨rfl, hr1, hk1⟩; obtain ⟨z1, z2⟩ := hk1.undrew.lastR hrl)
  all_goals go_wp2
  all_goals go_ret
  all_goals exact ⟨y.n == IntKind.u8.wrap on, rfl, fun hn _ => by rw [hn, IntKind.wrap_u8']; simp [wantN], hr1, HK.out.then hk1.undrew⟩

set_option maxRecDepth 100000 in
set_option maxHeartbeats 1000000 in
theorem back_u32 {w : World} {r g : Nat} {xs : List Int} {pl f : Nat} (R : Rdr w r g xs pl f) (owhich om on : Int) (oao : Option Addr) (ocap : Nat) (ob : List Int) (y : Took) (hy : Hid (y = takeL xs pl f 0 4 0)) :
    Calls Try.prog 31 #[.pointer (some ⟨r, 0, none⟩), .agg #[.int .i64 2, .int .i64 owhich, .int .i64 om, .int .u64 on, .slice oao ob.length ocap]] w fun e w' => BackTo w w' r g xs y ⟨2, owhich, om, on, oao, ocap, ob⟩ e := by
  have hrl := lt_of_block R.blk
  have HK : Hid (Kept [r] w (w.alloc (.cells #[.int .i64 2, .int .i64 owhich, .int .i64 om, .int .u64 on, .slice oao ob.length ocap] 37))) := (Kept.refl _ _).alloc _
  have R0 := (R.kept (S := []) ((Kept.refl _ w).alloc (.cells #[.int .i64 2, .int .i64 owhich, .int .i64 om, .int .u64 on, .slice oao ob.length ocap] 37)) (by simp) (by simp)).drew
  have hu := U32_any R0 y hy
  clear R hy R0
  go_enter Try.func31, Try.ntmps31
  go_wp2
  go_region_with (go_at_call 25; refine hu.mono ?_; rintro e w1 ⟨rfl, hr1, hk1⟩; obtain ⟨z1, z2⟩ := hk1.undrew.lastR hrl)
  all_goals go_wp2
  all_goals go_ret
  all_goals exact ⟨y.n == IntKind.u32.wrap on, rfl, fun hn _ => by rw [hn, IntKind.wrap_u32']; simp [wantN], hr1, HK.out.then hk1.undrew⟩

set_option maxRecDepth 100000 in
set_option maxHeartbeats 1000000 in
theorem back_u64 {w : World} {r g : Nat} {xs : List Int} {pl f : Nat} (R : Rdr w r g xs pl f) (owhich om on : Int) (oao : Option Addr) (ocap : Nat) (ob : List Int) (y : Took) (hy : Hid (y = takeL xs pl f 0 8 0)) :
    Calls Try.prog 31 #[.pointer (some ⟨r, 0, none⟩), .agg #[.int .i64 3, .int .i64 owhich, .int .i64 om, .int .u64 on, .slice oao ob.length ocap]] w fun e w' => BackTo w w' r g xs y ⟨3, owhich, om, on, oao, ocap, ob⟩ e := by
  have hrl := lt_of_block R.blk
  have HK : Hid (Kept [r] w (w.alloc (.cells #[.int .i64 3, .int .i64 owhich, .int .i64 om, .int .u64 on, .slice oao ob.length ocap] 37))) := (Kept.refl _ _).alloc _
  have R0 := (R.kept (S := []) ((Kept.refl _ w).alloc (.cells #[.int .i64 3, .int .i64 owhich, .int .i64 om, .int .u64 on, .slice oao ob.length ocap] 37)) (by simp) (by simp)).drew
  have hu := U64_any R0 y hy
  clear R hy R0
  go_enter Try.func31, Try.ntmps31
  go_wp2
  go_region_with (go_at_call 9; refine hu.mono ?_; rintro e w1 ⟨rfl, hr1, hk1⟩; obtain ⟨z1, z2⟩ := hk1.undrew.lastR hrl)
  all_goals go_wp2
  all_goals go_ret
  all_goals exact ⟨y.n == on, rfl, fun hn _ => by rw [hn]; simp [wantN], hr1, HK.out.then hk1.undrew⟩

set_option maxRecDepth 100000 in
set_option maxHeartbeats 1000000 in
theorem back_varW {w : World} {r g : Nat} {xs : List Int} {pl f : Nat} (R : Rdr w r g xs pl f) (owhich om on : Int) (oao : Option Addr) (ocap : Nat) (ob : List Int) (hn1 : on ≤ 18446744073709551615) (y : Took) (hy : Hid (y = takeL xs pl f 1 0 on)) :
    Calls Try.prog 31 #[.pointer (some ⟨r, 0, none⟩), .agg #[.int .i64 4, .int .i64 owhich, .int .i64 om, .int .u64 on, .slice oao ob.length ocap]] w fun e w' => BackTo w w' r g xs y ⟨4, owhich, om, on, oao, ocap, ob⟩ e := by
  have hrl := lt_of_block R.blk
  have HK : Hid (Kept [r] w (w.alloc (.cells #[.int .i64 4, .int .i64 owhich, .int .i64 om, .int .u64 on, .slice oao ob.length ocap] 37))) := (Kept.refl _ _).alloc _
  have R0 := (R.kept (S := []) ((Kept.refl _ w).alloc (.cells #[.int .i64 4, .int .i64 owhich, .int .i64 om, .int .u64 on, .slice oao ob.length ocap] 37)) (by simp) (by simp)).drew
  have hu := Var_any R0 on hn1 y hy
  clear R hy R0
  go_enter Try.func31, Try.ntmps31
  go_wp2
  go_region_with (go_at_call 36; refine hu.mono ?_; rintro e w1 ⟨rfl, hr1, hk1⟩; obtain ⟨z1, z2⟩ := hk1.undrew.lastR hrl)
  all_goals go_wp2
  all_goals go_ret
  all_goals exact ⟨y.n == on, rfl, fun hn _ => by rw [hn]; simp [wantN], hr1, HK.out.then hk1.undrew⟩

set_option maxRecDepth 100000 in
set_option maxHeartbeats 1000000 in
theorem back_bytes' {w : World} {r g : Nat} {xs : List Int} {pl f : Nat} (R : Rdr w r g xs pl f) (owhich om on : Int) (oao : Option Addr) (ocap : Nat) (ob : List Int) (hb : BytesAt w (.slice oao ob.length ocap) ob) (hbr : ob ≠ [] → ∀ b, blkOf (.slice oao ob.length ocap) = some b → b ∉ [r]) (hsm : ob.length ≤ 140737488351232) (y : Took) (hy : Hid (y = takeL xs pl f 2 0 ob.length)) :
    Calls Try.prog 31 #[.pointer (some ⟨r, 0, none⟩), .agg #[.int .i64 5, .int .i64 owhich, .int .i64 om, .int .u64 on, .slice oao ob.length ocap]] w fun e w' => BackTo w w' r g xs y ⟨5, owhich, om, on, oao, ocap, ob⟩ e := by
  have hrl := lt_of_block R.blk
  have HK : Hid (Kept [r] w (w.alloc (.cells #[.int .i64 5, .int .i64 owhich, .int .i64 om, .int .u64 on, .slice oao ob.length ocap] 37))) := (Kept.refl _ _).alloc _
  have R0 := (R.kept (S := []) ((Kept.refl _ w).alloc (.cells #[.int .i64 5, .int .i64 owhich, .int .i64 om, .int .u64 on, .slice oao ob.length ocap] 37)) (by simp) (by simp)).drew
  have hu := Bytes_any R0 ob.length (by omega) y (by rw [show max (ob.length : Int) 0 = ob.length by omega]; exact hy)
  have htl : y.text.length ≤ 140737488355328 := by rw [hy.out]; exact Nat.le_trans (take_len _ _ _ _ _ _) R.small
  have HE : Hid (∀ w1 q, w1.heap[q]? = some (.cells (y.text.map (Value.int .u8)).toArray 5 (0, 0)) → Kept [r] (w.alloc (.cells #[.int .i64 5, .int .i64 owhich, .int .i64 om, .int .u64 on, .slice oao ob.length ocap] 37)).drew w1 → Calls Try.prog 23 #[.slice (some ⟨q, 0, none⟩) y.text.length y.text.length, .slice oao ob.length ocap] w1 fun e w' => e = .returned (.bool (decide (y.text = ob))) ∧ ∃ n, w' = w1.drewN n) :=
    fun w1 q hq hk => Eq_any (bytes_row hq) ((hb.keep HK.out hbr).keep hk.undrew hbr) htl (by omega)
  clear R hy R0 hb hbr htl
  go_enter Try.func31, Try.ntmps31
  go_wp2
  go_region_with (first | (go_at_call 37; refine hu.mono ?_; rintro e w1 ⟨q, rfl, hq1, hql1, hr1, hk1⟩; obtain ⟨z1, z2⟩ := hk1.undrew.lastR hrl; have HQ : Hid _ := hq1; clear hq1) | (go_at_call 23; refine (HE.out _ q HQ.out hk1).mono ?_; rintro e w2 ⟨rfl, n2, rfl⟩))
  all_goals go_wp2
  all_goals go_ret
  all_goals exact ⟨decide (y.text = ob), rfl, fun _ ht => by rw [ht]; simp [wantT], hr1.kept (S := []) ((Kept.refl _ _).drewN _) (by simp) (by simp), (HK.out.then hk1.undrew).drewN _⟩

set_option maxRecDepth 100000 in
set_option maxHeartbeats 1000000 in
theorem back_raw' {w : World} {r g : Nat} {xs : List Int} {pl f : Nat} (R : Rdr w r g xs pl f) (owhich om on : Int) (oao : Option Addr) (ocap : Nat) (ob : List Int) (hb : BytesAt w (.slice oao ob.length ocap) ob) (hbr : ob ≠ [] → ∀ b, blkOf (.slice oao ob.length ocap) = some b → b ∉ [r]) (hsm : ob.length ≤ 140737488351232) (y : Took) (hy : Hid (y = takeL xs pl f 3 ob.length 0)) :
    Calls Try.prog 31 #[.pointer (some ⟨r, 0, none⟩), .agg #[.int .i64 6, .int .i64 owhich, .int .i64 om, .int .u64 on, .slice oao ob.length ocap]] w fun e w' => BackTo w w' r g xs y ⟨6, owhich, om, on, oao, ocap, ob⟩ e := by
  have hrl := lt_of_block R.blk
  have HK : Hid (Kept [r] w (w.alloc (.cells #[.int .i64 6, .int .i64 owhich, .int .i64 om, .int .u64 on, .slice oao ob.length ocap] 37))) := (Kept.refl _ _).alloc _
  have R0 := (R.kept (S := []) ((Kept.refl _ w).alloc (.cells #[.int .i64 6, .int .i64 owhich, .int .i64 om, .int .u64 on, .slice oao ob.length ocap] 37)) (by simp) (by simp)).drew
  have hu := Raw_any R0 ob.length (by omega) y hy
  have htl : y.text.length ≤ 140737488355328 := by rw [hy.out]; exact Nat.le_trans (take_len _ _ _ _ _ _) R.small
  have HE : Hid (∀ w1 q, w1.heap[q]? = some (.cells (y.text.map (Value.int .u8)).toArray 5 (0, 0)) → Kept [r] (w.alloc (.cells #[.int .i64 6, .int .i64 owhich, .int .i64 om, .int .u64 on, .slice oao ob.length ocap] 37)).drew w1 → Calls Try.prog 23 #[.slice (some ⟨q, 0, none⟩) y.text.length y.text.length, .slice oao ob.length ocap] w1 fun e w' => e = .returned (.bool (decide (y.text = ob))) ∧ ∃ n, w' = w1.drewN n) :=
    fun w1 q hq hk => Eq_any (bytes_row hq) ((hb.keep HK.out hbr).keep hk.undrew hbr) htl (by omega)
  clear R hy R0 hb hbr htl
  go_enter Try.func31, Try.ntmps31
  go_wp2
  go_region_with (first | (go_at_call 38; refine hu.mono ?_; rintro e w1 ⟨q, rfl, hq1, hql1, hr1, hk1⟩; obtain ⟨z1, z2⟩ := hk1.undrew.lastR hrl; have HQ : Hid _ := hq1; clear hq1) | (go_at_call 23; refine (HE.out _ q HQ.out hk1).mono ?_; rintro e w2 ⟨rfl, n2, rfl⟩))
  all_goals go_wp2
  all_goals go_ret
  all_goals exact ⟨decide (y.text = ob), rfl, fun _ ht => by rw [ht]; simp [wantT], hr1.kept (S := []) ((Kept.refl _ _).drewN _) (by simp) (by simp), (HK.out.then hk1.undrew).drewN _⟩

set_option maxHeartbeats 1000000 in
theorem back_other {w : World} {r g : Nat} {xs : List Int} {pl f : Nat} (R : Rdr w r g xs pl f) (okind owhich om on : Int) (oao : Option Addr) (ocap : Nat) (ob : List Int)
    (k1 : okind ≠ 1) (k2 : okind ≠ 2) (k3 : okind ≠ 3) (k4 : okind ≠ 4) (k5 : okind ≠ 5) (k6 : okind ≠ 6) :
    Calls Try.prog 31 #[.pointer (some ⟨r, 0, none⟩), .agg #[.int .i64 okind, .int .i64 owhich, .int .i64 om, .int .u64 on, .slice oao ob.length ocap]] w fun e w' => BackTo w w' r g xs ⟨0, [], pl, f⟩ ⟨okind, owhich, om, on, oao, ocap, ob⟩ e := by
  have k0 : Kept [] w (w.alloc (.cells #[.int .i64 okind, .int .i64 owhich, .int .i64 om, .int .u64 on, .slice oao ob.length ocap] 37)) := (Kept.refl _ _).alloc _
  have HK : Hid (Kept [r] w (w.alloc (.cells #[.int .i64 okind, .int .i64 owhich, .int .i64 om, .int .u64 on, .slice oao ob.length ocap] 37))) := k0.more (by simp)
  have HR : Hid (Rdr (w.alloc (.cells #[.int .i64 okind, .int .i64 owhich, .int .i64 om, .int .u64 on, .slice oao ob.length ocap] 37)) r g xs pl f) := R.kept k0 (by simp) (by simp)
  have e1 : (okind == 1) = false := beq_eq_false_iff_ne.2 k1
  have e2 : (okind == 2) = false := beq_eq_false_iff_ne.2 k2
  have e3 : (okind == 3) = false := beq_eq_false_iff_ne.2 k3
  have e4 : (okind == 4) = false := beq_eq_false_iff_ne.2 k4
  have e5 : (okind == 5) = false := beq_eq_false_iff_ne.2 k5
  have e6 : (okind == 6) = false := beq_eq_false_iff_ne.2 k6
  clear R k0 k1 k2 k3 k4 k5 k6
  go_enter Try.func31, Try.ntmps31
  go_wp2
  go_ret
  exact ⟨true, rfl, fun _ _ => rfl, HR.out, HK.out⟩

theorem back_any {w : World} {r g : Nat} {xs : List Int} {pl f : Nat} (R : Rdr w r g xs pl f) (o : COp) (hg : COp.Good o w) (hbr : o.b ≠ [] → ∀ b, blkOf (.slice o.ao o.b.length o.cap) = some b → b ∉ [r]) :
    Calls Try.prog 31 #[.pointer (some ⟨r, 0, none⟩), .agg #[.int .i64 o.kind, .int .i64 o.which, .int .i64 o.m, .int .u64 o.n, .slice o.ao o.b.length o.cap]] w fun e w' => BackTo w w' r g xs (backL xs pl f o) o e := by
  have hn1 := hg.n1
  have hat := hg.at'
  have hsm := hg.small
  obtain ⟨okind, owhich, om, on, oao, ocap, ob⟩ := o
  unfold backL
  dsimp only at *
  by_cases k1 : okind = 1
  · simp only [if_pos k1]; subst k1; exact back_u8 R _ _ _ _ _ _ _ rfl
  by_cases k2 : okind = 2
  · simp only [if_neg k1, if_pos k2]; subst k2; exact back_u32 R _ _ _ _ _ _ _ rfl
  by_cases k3 : okind = 3
  · simp only [if_neg k1, if_neg k2, if_pos k3]; subst k3; exact back_u64 R _ _ _ _ _ _ _ rfl
  by_cases k4 : okind = 4
  · simp only [if_neg k1, if_neg k2, if_neg k3, if_pos k4]; subst k4; exact back_varW R _ _ _ _ _ _ hn1 _ rfl
  by_cases k5 : okind = 5
  · simp only [if_neg k1, if_neg k2, if_neg k3, if_neg k4, if_pos k5]; subst k5; exact back_bytes' R _ _ _ _ _ _ hat hbr hsm _ rfl
  by_cases k6 : okind = 6
  · simp only [if_neg k1, if_neg k2, if_neg k3, if_neg k4, if_neg k5, if_pos k6]; subst k6; exact back_raw' R _ _ _ _ _ _ hat hbr hsm _ rfl
  simp only [if_neg k1, if_neg k2, if_neg k3, if_neg k4, if_neg k5, if_neg k6]
  exact back_other R _ _ _ _ _ _ _ k1 k2 k3 k4 k5 k6

end Go.Proofs.Ytbflokiijfomeaa
