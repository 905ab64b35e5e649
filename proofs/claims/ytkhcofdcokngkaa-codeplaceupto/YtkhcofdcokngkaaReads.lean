/-
  WALKS: satchellaw1.reads: one step is asked of the program's Reader and of the document's own, for every pair of them that has come equally far, and every step.
-/
import Derived.Test.YtkhcofdcokngkaaEye5
import Derived.Test.YtkhcofdcokngkaaOps
import Derived.Deep.RegionWith
import Derived.Deep.DrawnRows
namespace Go.Proofs.Ytkhcofdcokngkaa
open Go.RowKit
attribute [local go_sem ↓] Go.wp_at_zero Go.wp_at_succ

/-- The program's Reader and the document's, over the same bytes, equally far, in memory of their own. -/
structure Pair (w : World) (r gr b gb : Nat) (xs : List Int) (pl f : Nat) : Prop where
  rd : Rdr w r gr xs pl f
  eye : EyeAt w b gb xs pl f
  rb : r ≠ b
  rg : r ≠ gb
  br : b ≠ gr

theorem Pair.kept {w w' : World} {r gr b gb : Nat} {xs : List Int} {pl f : Nat} {S : List Nat} (P : Pair w r gr b gb xs pl f) (k : Kept S w w') (h1 : r ∉ S) (h2 : gr ∉ S) (h3 : b ∉ S) (h4 : gb ∉ S) : Pair w' r gr b gb xs pl f :=
  ⟨P.rd.kept k h1 h2, P.eye.kept k h3 h4, P.rb, P.rg, P.br⟩
theorem Pair.box {w w' : World} {r gr b gb : Nat} {xs : List Int} {pl f : Nat} (P : Pair w r gr b gb xs pl f) (k : Kept [] w w') : Pair w' r gr b gb xs pl f :=
  P.kept k (by simp) (by simp) (by simp) (by simp)
/-- What 'reads' comes to. -/
structure ReadsTo (w w' : World) (r gr b gb : Nat) (xs : List Int) (e : Ending) : Prop where
  ret : ∃ res, e = .returned (.bool res) ∧ res = true
  pair : ∃ pl f, Pair w' r gr b gb xs pl f
  kept : Kept [r, b] w w'

theorem Kept.lastB {w w1 : World} {c : Array Value} {t : TypeId} {r : Nat} (h : Kept [r] (w.alloc (.cells c t)) w1) (hr : r < w.heap.size) :
    w.heap.size < w1.heap.size ∧ (∀ o, w1.cell? ⟨w.heap.size, o, none⟩ = c[o]?) := by
  have hb : w1.heap[w.heap.size]? = some (.cells c t (0, 0)) := h.heap (heap_alloc_new w _) (by simp; omega)
  exact ⟨lt_of_block hb, fun o => cell_of_row _ _ _ _ _ _ hb⟩
theorem row_bytes {w : World} {q : Nat} {ys : List Int} (h : w.heap[q]? = some (.cells (ys.map (Value.int .u8)).toArray 5 (0, 0))) : BytesAt w (.slice (some ⟨q, 0, none⟩) ys.length ys.length) ys := by
  refine ⟨_, _, rfl, Nat.le_refl _, fun e => (by simp at e), fun _ => ⟨q, 0, rfl, fun i u hu => ?_⟩⟩
  rw [cell_of_row _ _ _ _ _ _ h, Nat.zero_add, ← Array.getElem?_toList]
  simp [hu]
theorem Kept.undraw {S : List Nat} {w w1 : World} (h : Kept S w.drew w1) : Kept S w w1 := ⟨h.os, h.tape, h.output, h.size, h.block⟩

/-- Both have read: the one, then the other. -/
theorem Pair.two {w w1 w2 : World} {r gr b gb : Nat} {xs : List Int} {pl f : Nat} {y : Took} (P : Pair w r gr b gb xs pl f) (h1 : Rdr w1 r gr xs y.pl y.f) (k1 : Kept [r] w w1) (h2 : EyeAt w2 b gb xs y.pl y.f) (k2 : Kept [b] w1 w2) :
    (∃ pl f, Pair w2 r gr b gb xs pl f) ∧ Kept [r, b] w w2 :=
  ⟨⟨y.pl, y.f, h1.kept k2 (by simpa using P.rb) (by simpa using P.br.symm), h2, P.rb, P.rg, P.br⟩, (k1.more (by simp)).then (k2.more (by simp))⟩

set_option maxRecDepth 100000 in
set_option maxHeartbeats 2000000 in
theorem reads_u8 {w : World} {r gr b gb : Nat} {xs : List Int} {pl f : Nat} (P : Pair w r gr b gb xs pl f) (owhich om on : Int) (oao : Option Addr) (ocap : Nat) (ob : List Int) :
    Calls Try.prog 25 #[.pointer (some ⟨r, 0, none⟩), .pointer (some ⟨b, 0, none⟩), .agg #[.int .i64 1, .int .i64 owhich, .int .i64 om, .int .u64 on, .slice oao ob.length ocap]] w fun e w' => ReadsTo w w' r gr b gb xs e := by
  have hk0 : Kept [] w (w.alloc (.cells #[.int .i64 1, .int .i64 owhich, .int .i64 om, .int .u64 on, .slice oao ob.length ocap] 50)) := (Kept.refl _ w).alloc _
  have HK : Hid (Kept [r, b] w (w.alloc (.cells #[.int .i64 1, .int .i64 owhich, .int .i64 om, .int .u64 on, .slice oao ob.length ocap] 50))) := (Kept.refl _ w).alloc _
  have P0 := P.box hk0
  have hrl := lt_of_block P.rd.blk
  obtain ⟨y, hy⟩ : ∃ y, Hid (y = takeL xs pl f 0 1 0) := ⟨_, rfl⟩
  have hu := U8_any P0.rd y hy
  have HE : Hid (∀ w1, Kept [r] (w.alloc (.cells #[.int .i64 1, .int .i64 owhich, .int .i64 om, .int .u64 on, .slice oao ob.length ocap] 50)) w1 → Calls Try.prog 58 #[.pointer (some ⟨b, 0, none⟩)] w1 fun e w' => e = .returned (.int .u8 y.n) ∧ EyeAt w' b gb xs y.pl y.f ∧ Kept [b] w1 w') :=
    fun w1 hk => EU8_any (P0.eye.kept hk (by simpa using P.rb.symm) (by simpa using P.rg.symm)) y hy
  have HP : Hid (∀ w1 w2, Rdr w1 r gr xs y.pl y.f → Kept [r] (w.alloc (.cells #[.int .i64 1, .int .i64 owhich, .int .i64 om, .int .u64 on, .slice oao ob.length ocap] 50)) w1 → EyeAt w2 b gb xs y.pl y.f → Kept [b] w1 w2 → (∃ pl f, Pair w2 r gr b gb xs pl f) ∧ Kept [r, b] (w.alloc (.cells #[.int .i64 1, .int .i64 owhich, .int .i64 om, .int .u64 on, .slice oao ob.length ocap] 50)) w2) :=
    fun w1 w2 a1 a2 a3 a4 => P0.two a1 a2 a3 a4
  clear P P0 hy hk0
  go_enter Try.func25, Try.ntmps25
  go_wp2_with (first
    | (go_at_call 57; refine hu.mono ?_; rintro e w1 ⟨rfl, hr1, hk1⟩)
    | (go_at_call 58; refine (HE.out _ hk1).mono ?_; rintro e w2 ⟨rfl, hr2, hk2⟩))
  go_ret
  obtain ⟨p1, p2⟩ := HP.out _ _ hr1 hk1 hr2 hk2
  exact ⟨⟨_, rfl, by simp⟩, p1, HK.out.then p2⟩

set_option maxRecDepth 100000 in
set_option maxHeartbeats 2000000 in
theorem reads_u32 {w : World} {r gr b gb : Nat} {xs : List Int} {pl f : Nat} (P : Pair w r gr b gb xs pl f) (owhich om on : Int) (oao : Option Addr) (ocap : Nat) (ob : List Int) :
    Calls Try.prog 25 #[.pointer (some ⟨r, 0, none⟩), .pointer (some ⟨b, 0, none⟩), .agg #[.int .i64 2, .int .i64 owhich, .int .i64 om, .int .u64 on, .slice oao ob.length ocap]] w fun e w' => ReadsTo w w' r gr b gb xs e := by
  have hk0 : Kept [] w (w.alloc (.cells #[.int .i64 2, .int .i64 owhich, .int .i64 om, .int .u64 on, .slice oao ob.length ocap] 50)) := (Kept.refl _ w).alloc _
  have HK : Hid (Kept [r, b] w (w.alloc (.cells #[.int .i64 2, .int .i64 owhich, .int .i64 om, .int .u64 on, .slice oao ob.length ocap] 50))) := (Kept.refl _ w).alloc _
  have P0 := P.box hk0
  have hrl := lt_of_block P.rd.blk
  obtain ⟨y, hy⟩ : ∃ y, Hid (y = takeL xs pl f 0 4 0) := ⟨_, rfl⟩
  have hu := U32_any P0.rd y hy
  have HE : Hid (∀ w1, Kept [r] (w.alloc (.cells #[.int .i64 2, .int .i64 owhich, .int .i64 om, .int .u64 on, .slice oao ob.length ocap] 50)) w1 → Calls Try.prog 59 #[.pointer (some ⟨b, 0, none⟩)] w1 fun e w' => e = .returned (.int .u32 y.n) ∧ EyeAt w' b gb xs y.pl y.f ∧ Kept [b] w1 w') :=
    fun w1 hk => EU32_any (P0.eye.kept hk (by simpa using P.rb.symm) (by simpa using P.rg.symm)) y hy
  have HP : Hid (∀ w1 w2, Rdr w1 r gr xs y.pl y.f → Kept [r] (w.alloc (.cells #[.int .i64 2, .int .i64 owhich, .int .i64 om, .int .u64 on, .slice oao ob.length ocap] 50)) w1 → EyeAt w2 b gb xs y.pl y.f → Kept [b] w1 w2 → (∃ pl f, Pair w2 r gr b gb xs pl f) ∧ Kept [r, b] (w.alloc (.cells #[.int .i64 2, .int .i64 owhich, .int .i64 om, .int .u64 on, .slice oao ob.length ocap] 50)) w2) :=
    fun w1 w2 a1 a2 a3 a4 => P0.two a1 a2 a3 a4
  clear P P0 hy hk0
  go_enter Try.func25, Try.ntmps25
  go_wp2_with (first
    | (go_at_call 19; refine hu.mono ?_; rintro e w1 ⟨rfl, hr1, hk1⟩)
    | (go_at_call 59; refine (HE.out _ hk1).mono ?_; rintro e w2 ⟨rfl, hr2, hk2⟩))
  go_ret
  obtain ⟨p1, p2⟩ := HP.out _ _ hr1 hk1 hr2 hk2
  exact ⟨⟨_, rfl, by simp⟩, p1, HK.out.then p2⟩

set_option maxRecDepth 100000 in
set_option maxHeartbeats 2000000 in
theorem reads_u64 {w : World} {r gr b gb : Nat} {xs : List Int} {pl f : Nat} (P : Pair w r gr b gb xs pl f) (owhich om on : Int) (oao : Option Addr) (ocap : Nat) (ob : List Int) :
    Calls Try.prog 25 #[.pointer (some ⟨r, 0, none⟩), .pointer (some ⟨b, 0, none⟩), .agg #[.int .i64 3, .int .i64 owhich, .int .i64 om, .int .u64 on, .slice oao ob.length ocap]] w fun e w' => ReadsTo w w' r gr b gb xs e := by
  have hk0 : Kept [] w (w.alloc (.cells #[.int .i64 3, .int .i64 owhich, .int .i64 om, .int .u64 on, .slice oao ob.length ocap] 50)) := (Kept.refl _ w).alloc _
  have HK : Hid (Kept [r, b] w (w.alloc (.cells #[.int .i64 3, .int .i64 owhich, .int .i64 om, .int .u64 on, .slice oao ob.length ocap] 50))) := (Kept.refl _ w).alloc _
  have P0 := P.box hk0
  have hrl := lt_of_block P.rd.blk
  obtain ⟨y, hy⟩ : ∃ y, Hid (y = takeL xs pl f 0 8 0) := ⟨_, rfl⟩
  have hu := U64_any P0.rd y hy
  have HE : Hid (∀ w1, Kept [r] (w.alloc (.cells #[.int .i64 3, .int .i64 owhich, .int .i64 om, .int .u64 on, .slice oao ob.length ocap] 50)) w1 → Calls Try.prog 61 #[.pointer (some ⟨b, 0, none⟩)] w1 fun e w' => e = .returned (.int .u64 y.n) ∧ EyeAt w' b gb xs y.pl y.f ∧ Kept [b] w1 w') :=
    fun w1 hk => EU64_any (P0.eye.kept hk (by simpa using P.rb.symm) (by simpa using P.rg.symm)) y hy
  have HP : Hid (∀ w1 w2, Rdr w1 r gr xs y.pl y.f → Kept [r] (w.alloc (.cells #[.int .i64 3, .int .i64 owhich, .int .i64 om, .int .u64 on, .slice oao ob.length ocap] 50)) w1 → EyeAt w2 b gb xs y.pl y.f → Kept [b] w1 w2 → (∃ pl f, Pair w2 r gr b gb xs pl f) ∧ Kept [r, b] (w.alloc (.cells #[.int .i64 3, .int .i64 owhich, .int .i64 om, .int .u64 on, .slice oao ob.length ocap] 50)) w2) :=
    fun w1 w2 a1 a2 a3 a4 => P0.two a1 a2 a3 a4
  clear P P0 hy hk0
  go_enter Try.func25, Try.ntmps25
  go_wp2_with (first
    | (go_at_call 60; refine hu.mono ?_; rintro e w1 ⟨rfl, hr1, hk1⟩)
    | (go_at_call 61; refine (HE.out _ hk1).mono ?_; rintro e w2 ⟨rfl, hr2, hk2⟩))
  go_ret
  obtain ⟨p1, p2⟩ := HP.out _ _ hr1 hk1 hr2 hk2
  exact ⟨⟨_, rfl, by simp⟩, p1, HK.out.then p2⟩

set_option maxRecDepth 100000 in
set_option maxHeartbeats 2000000 in
theorem reads_var {w : World} {r gr b gb : Nat} {xs : List Int} {pl f : Nat} (P : Pair w r gr b gb xs pl f) (owhich om on : Int) (oao : Option Addr) (ocap : Nat) (ob : List Int) (hn1 : on ≤ 18446744073709551615) :
    Calls Try.prog 25 #[.pointer (some ⟨r, 0, none⟩), .pointer (some ⟨b, 0, none⟩), .agg #[.int .i64 4, .int .i64 owhich, .int .i64 om, .int .u64 on, .slice oao ob.length ocap]] w fun e w' => ReadsTo w w' r gr b gb xs e := by
  have hk0 : Kept [] w (w.alloc (.cells #[.int .i64 4, .int .i64 owhich, .int .i64 om, .int .u64 on, .slice oao ob.length ocap] 50)) := (Kept.refl _ w).alloc _
  have HK : Hid (Kept [r, b] w (w.alloc (.cells #[.int .i64 4, .int .i64 owhich, .int .i64 om, .int .u64 on, .slice oao ob.length ocap] 50))) := (Kept.refl _ w).alloc _
  have P0 := P.box hk0
  have hrl := lt_of_block P.rd.blk
  obtain ⟨y, hy⟩ : ∃ y, Hid (y = takeL xs pl f 1 0 on) := ⟨_, rfl⟩
  have P1 := P0.box (Kept.refl _ _).drew
  have hu := Var_any P1.rd on hn1 y hy
  have HE : Hid (∀ w1, Kept [r] (w.alloc (.cells #[.int .i64 4, .int .i64 owhich, .int .i64 om, .int .u64 on, .slice oao ob.length ocap] 50)).drew w1 → Calls Try.prog 63 #[.pointer (some ⟨b, 0, none⟩), .int .u64 on] w1 fun e w' => e = .returned (.int .u64 y.n) ∧ EyeAt w' b gb xs y.pl y.f ∧ Kept [b] w1 w') :=
    fun w1 hk => EVar_any (P1.eye.kept hk (by simpa using P.rb.symm) (by simpa using P.rg.symm)) on y hy
  have HP : Hid (∀ w1 w2, Rdr w1 r gr xs y.pl y.f → Kept [r] (w.alloc (.cells #[.int .i64 4, .int .i64 owhich, .int .i64 om, .int .u64 on, .slice oao ob.length ocap] 50)).drew w1 → EyeAt w2 b gb xs y.pl y.f → Kept [b] w1 w2 → (∃ pl f, Pair w2 r gr b gb xs pl f) ∧ Kept [r, b] (w.alloc (.cells #[.int .i64 4, .int .i64 owhich, .int .i64 om, .int .u64 on, .slice oao ob.length ocap] 50)).drew w2) :=
    fun w1 w2 a1 a2 a3 a4 => P1.two a1 a2 a3 a4
  clear P P0 P1 hy hk0
  go_enter Try.func25, Try.ntmps25
  go_wp2
  go_region_with (first
    | (go_at_call 62; refine hu.mono ?_; rintro e w1 ⟨rfl, hr1, hk1⟩; obtain ⟨z1, z2⟩ := hk1.undraw.lastB hrl)
    | (go_at_call 63; refine (HE.out _ hk1).mono ?_; rintro e w2 ⟨rfl, hr2, hk2⟩))
  all_goals go_wp2
  all_goals go_ret
  all_goals (obtain ⟨p1, p2⟩ := HP.out _ _ hr1 hk1 hr2 hk2)
  all_goals exact ⟨⟨_, rfl, by simp⟩, p1, HK.out.then p2.undraw⟩

set_option maxRecDepth 100000 in
set_option maxHeartbeats 2000000 in
theorem reads_bytes {w : World} {r gr b gb : Nat} {xs : List Int} {pl f : Nat} (P : Pair w r gr b gb xs pl f) (owhich om on : Int) (oao : Option Addr) (ocap : Nat) (ob : List Int) (hm0 : -9223372036854775808 ≤ om) (hm1 : om ≤ 9223372036854775807) :
    Calls Try.prog 25 #[.pointer (some ⟨r, 0, none⟩), .pointer (some ⟨b, 0, none⟩), .agg #[.int .i64 5, .int .i64 owhich, .int .i64 om, .int .u64 on, .slice oao ob.length ocap]] w fun e w' => ReadsTo w w' r gr b gb xs e := by
  have hk0 : Kept [] w (w.alloc (.cells #[.int .i64 5, .int .i64 owhich, .int .i64 om, .int .u64 on, .slice oao ob.length ocap] 50)) := (Kept.refl _ w).alloc _
  have HK : Hid (Kept [r, b] w (w.alloc (.cells #[.int .i64 5, .int .i64 owhich, .int .i64 om, .int .u64 on, .slice oao ob.length ocap] 50))) := (Kept.refl _ w).alloc _
  have P0 := P.box hk0
  have hrl := lt_of_block P.rd.blk
  obtain ⟨y, hy⟩ : ∃ y, Hid (y = takeL xs pl f 2 0 (max om 0)) := ⟨_, rfl⟩
  have P1 := P0.box (Kept.refl _ _).drew
  have hu := Bytes_any P1.rd om hm1 y hy
  have hbl := lt_of_block P.eye.blk
  have htl : y.text.length ≤ 140737488355328 := by rw [hy.out]; exact Nat.le_trans (take_len _ _ _ _ _ _) P.rd.small
  have HE : Hid (∀ w1, Kept [r] (w.alloc (.cells #[.int .i64 5, .int .i64 owhich, .int .i64 om, .int .u64 on, .slice oao ob.length ocap] 50)).drew w1 → Calls Try.prog 38 #[.pointer (some ⟨b, 0, none⟩), .int .i64 om] w1 fun e w' => ∃ v, e = .returned v ∧ BytesAt w' v y.text ∧ EyeAt w' b gb xs y.pl y.f ∧ Kept [b] w1 w') :=
    fun w1 hk => EText_any (P1.eye.kept hk (by simpa using P.rb.symm) (by simpa using P.rg.symm)) om hm0 hm1 y hy
  have HP : Hid (∀ w1 w2, Rdr w1 r gr xs y.pl y.f → Kept [r] (w.alloc (.cells #[.int .i64 5, .int .i64 owhich, .int .i64 om, .int .u64 on, .slice oao ob.length ocap] 50)).drew w1 → EyeAt w2 b gb xs y.pl y.f → Kept [b] w1 w2 → (∃ pl f, Pair w2 r gr b gb xs pl f) ∧ Kept [r, b] (w.alloc (.cells #[.int .i64 5, .int .i64 owhich, .int .i64 om, .int .u64 on, .slice oao ob.length ocap] 50)).drew w2) :=
    fun w1 w2 a1 a2 a3 a4 => P1.two a1 a2 a3 a4
  have HQ : Hid (∀ (w1 w2 : World) (q : Nat) (v : Value), w1.heap[q]? = some (.cells (y.text.map (Value.int .u8)).toArray 5 (0, 0)) → (w.alloc (.cells #[.int .i64 5, .int .i64 owhich, .int .i64 om, .int .u64 on, .slice oao ob.length ocap] 50)).drew.heap.size ≤ q → Kept [b] w1 w2 → BytesAt w2 v y.text → Calls Try.prog 17 #[.slice (some ⟨q, 0, none⟩) y.text.length y.text.length, v] w2 fun e w' => e = .returned (.bool true) ∧ ∃ n, w' = w2.drewN n) :=
    fun w1 w2 q v h1 h2 h3 h4 => Eq_same (row_bytes (h3.heap h1 (by have : w.heap.size + 1 ≤ q := by simpa using h2
                                                                    simp; omega))) h4 htl
  clear P P0 P1 hy hk0 htl
  go_enter Try.func25, Try.ntmps25
  go_wp2
  go_region_with (first
    | (go_at_call 36; refine hu.mono ?_; rintro e w1 ⟨q, rfl, hq, hql, hr1, hk1⟩; obtain ⟨z1, z2⟩ := hk1.undraw.lastB hrl; have Hq : Hid _ := hq; have Hql : Hid _ := hql; clear hq hql)
    | (go_at_call 38; refine (HE.out _ hk1).mono ?_; rintro e w2 ⟨v, rfl, hv, hr2, hk2⟩; have Hv : Hid _ := hv; clear hv)
    | (go_at_call 17; refine (HQ.out _ _ _ _ Hq.out Hql.out hk2 Hv.out).mono ?_; rintro e w3 ⟨rfl, n3, rfl⟩))
  all_goals go_wp2
  all_goals go_ret
  all_goals (obtain ⟨⟨pl', f', p1⟩, p2⟩ := HP.out _ _ hr1 hk1 hr2 hk2)
  all_goals exact ⟨⟨true, rfl, rfl⟩, ⟨pl', f', p1.box ((Kept.refl _ _).drewN _)⟩, (HK.out.then p2.undraw).drewN _⟩

set_option maxRecDepth 100000 in
set_option maxHeartbeats 2000000 in
theorem reads_raw {w : World} {r gr b gb : Nat} {xs : List Int} {pl f : Nat} (P : Pair w r gr b gb xs pl f) (owhich om on : Int) (oao : Option Addr) (ocap : Nat) (ob : List Int) (hm0 : -9223372036854775808 ≤ om) (hm1 : om ≤ 9223372036854775807) :
    Calls Try.prog 25 #[.pointer (some ⟨r, 0, none⟩), .pointer (some ⟨b, 0, none⟩), .agg #[.int .i64 6, .int .i64 owhich, .int .i64 om, .int .u64 on, .slice oao ob.length ocap]] w fun e w' => ReadsTo w w' r gr b gb xs e := by
  have hk0 : Kept [] w (w.alloc (.cells #[.int .i64 6, .int .i64 owhich, .int .i64 om, .int .u64 on, .slice oao ob.length ocap] 50)) := (Kept.refl _ w).alloc _
  have HK : Hid (Kept [r, b] w (w.alloc (.cells #[.int .i64 6, .int .i64 owhich, .int .i64 om, .int .u64 on, .slice oao ob.length ocap] 50))) := (Kept.refl _ w).alloc _
  have P0 := P.box hk0
  have hrl := lt_of_block P.rd.blk
  obtain ⟨y, hy⟩ : ∃ y, Hid (y = takeL xs pl f 3 om 0) := ⟨_, rfl⟩
  have P1 := P0.box (Kept.refl _ _).drew
  have hu := Raw_any P1.rd om hm1 y hy
  have hbl := lt_of_block P.eye.blk
  have htl : y.text.length ≤ 140737488355328 := by rw [hy.out]; exact Nat.le_trans (take_len _ _ _ _ _ _) P.rd.small
  have HE : Hid (∀ w1, Kept [r] (w.alloc (.cells #[.int .i64 6, .int .i64 owhich, .int .i64 om, .int .u64 on, .slice oao ob.length ocap] 50)).drew w1 → Calls Try.prog 39 #[.pointer (some ⟨b, 0, none⟩), .int .i64 om] w1 fun e w' => ∃ v, e = .returned v ∧ BytesAt w' v y.text ∧ EyeAt w' b gb xs y.pl y.f ∧ Kept [b] w1 w') :=
    fun w1 hk => ERaw_any (P1.eye.kept hk (by simpa using P.rb.symm) (by simpa using P.rg.symm)) om hm0 hm1 y hy
  have HP : Hid (∀ w1 w2, Rdr w1 r gr xs y.pl y.f → Kept [r] (w.alloc (.cells #[.int .i64 6, .int .i64 owhich, .int .i64 om, .int .u64 on, .slice oao ob.length ocap] 50)).drew w1 → EyeAt w2 b gb xs y.pl y.f → Kept [b] w1 w2 → (∃ pl f, Pair w2 r gr b gb xs pl f) ∧ Kept [r, b] (w.alloc (.cells #[.int .i64 6, .int .i64 owhich, .int .i64 om, .int .u64 on, .slice oao ob.length ocap] 50)).drew w2) :=
    fun w1 w2 a1 a2 a3 a4 => P1.two a1 a2 a3 a4
  have HQ : Hid (∀ (w1 w2 : World) (q : Nat) (v : Value), w1.heap[q]? = some (.cells (y.text.map (Value.int .u8)).toArray 5 (0, 0)) → (w.alloc (.cells #[.int .i64 6, .int .i64 owhich, .int .i64 om, .int .u64 on, .slice oao ob.length ocap] 50)).drew.heap.size ≤ q → Kept [b] w1 w2 → BytesAt w2 v y.text → Calls Try.prog 17 #[.slice (some ⟨q, 0, none⟩) y.text.length y.text.length, v] w2 fun e w' => e = .returned (.bool true) ∧ ∃ n, w' = w2.drewN n) :=
    fun w1 w2 q v h1 h2 h3 h4 => Eq_same (row_bytes (h3.heap h1 (by have : w.heap.size + 1 ≤ q := by simpa using h2
                                                                    simp; omega))) h4 htl
  clear P P0 P1 hy hk0 htl
  go_enter Try.func25, Try.ntmps25
  go_wp2
  go_region_with (first
    | (go_at_call 35; refine hu.mono ?_; rintro e w1 ⟨q, rfl, hq, hql, hr1, hk1⟩; obtain ⟨z1, z2⟩ := hk1.undraw.lastB hrl; have Hq : Hid _ := hq; have Hql : Hid _ := hql; clear hq hql)
    | (go_at_call 39; refine (HE.out _ hk1).mono ?_; rintro e w2 ⟨v, rfl, hv, hr2, hk2⟩; have Hv : Hid _ := hv; clear hv)
    | (go_at_call 17; refine (HQ.out _ _ _ _ Hq.out Hql.out hk2 Hv.out).mono ?_; rintro e w3 ⟨rfl, n3, rfl⟩))
  all_goals go_wp2
  all_goals go_ret
  all_goals (obtain ⟨⟨pl', f', p1⟩, p2⟩ := HP.out _ _ hr1 hk1 hr2 hk2)
  all_goals exact ⟨⟨true, rfl, rfl⟩, ⟨pl', f', p1.box ((Kept.refl _ _).drewN _)⟩, (HK.out.then p2.undraw).drewN _⟩

set_option maxRecDepth 100000 in
set_option maxHeartbeats 2000000 in
theorem reads_left {w : World} {r gr b gb : Nat} {xs : List Int} {pl f : Nat} (P : Pair w r gr b gb xs pl f) (owhich om on : Int) (oao : Option Addr) (ocap : Nat) (ob : List Int) :
    Calls Try.prog 25 #[.pointer (some ⟨r, 0, none⟩), .pointer (some ⟨b, 0, none⟩), .agg #[.int .i64 7, .int .i64 owhich, .int .i64 om, .int .u64 on, .slice oao ob.length ocap]] w fun e w' => ReadsTo w w' r gr b gb xs e := by
  have hk0 : Kept [] w (w.alloc (.cells #[.int .i64 7, .int .i64 owhich, .int .i64 om, .int .u64 on, .slice oao ob.length ocap] 50)) := (Kept.refl _ w).alloc _
  have HK : Hid (Kept [r, b] w (w.alloc (.cells #[.int .i64 7, .int .i64 owhich, .int .i64 om, .int .u64 on, .slice oao ob.length ocap] 50))) := (Kept.refl _ w).alloc _
  have P0 := P.box hk0
  have hrl := lt_of_block P.rd.blk
  have hu := Left_any P0.rd
  have hE := fun n => ELeft_any (P0.eye.drewN n)
  have HP : Hid (Pair (w.alloc (.cells #[.int .i64 7, .int .i64 owhich, .int .i64 om, .int .u64 on, .slice oao ob.length ocap] 50)) r gr b gb xs pl f) := P0
  clear P P0 hk0
  go_enter Try.func25, Try.ntmps25
  go_wp2_with (first
    | (go_at_call 20; refine hu.mono ?_; rintro e w1 ⟨rfl, n1, rfl⟩)
    | (go_at_call 64; refine (hE n1).mono ?_; rintro e w2 ⟨rfl, n2, rfl⟩))
  go_ret
  exact ⟨⟨_, rfl, by simp⟩, ⟨_, _, HP.out.box ((Kept.refl _ _).drewN _)⟩, HK.out.drewN _⟩

set_option maxRecDepth 100000 in
set_option maxHeartbeats 2000000 in
theorem reads_at {w : World} {r gr b gb : Nat} {xs : List Int} {pl f : Nat} (P : Pair w r gr b gb xs pl f) (owhich om on : Int) (oao : Option Addr) (ocap : Nat) (ob : List Int) :
    Calls Try.prog 25 #[.pointer (some ⟨r, 0, none⟩), .pointer (some ⟨b, 0, none⟩), .agg #[.int .i64 8, .int .i64 owhich, .int .i64 om, .int .u64 on, .slice oao ob.length ocap]] w fun e w' => ReadsTo w w' r gr b gb xs e := by
  have hk0 : Kept [] w (w.alloc (.cells #[.int .i64 8, .int .i64 owhich, .int .i64 om, .int .u64 on, .slice oao ob.length ocap] 50)) := (Kept.refl _ w).alloc _
  have HK : Hid (Kept [r, b] w (w.alloc (.cells #[.int .i64 8, .int .i64 owhich, .int .i64 om, .int .u64 on, .slice oao ob.length ocap] 50))) := (Kept.refl _ w).alloc _
  have P0 := P.box hk0
  have hrl := lt_of_block P.rd.blk
  have hu := At_any (P0.box (Kept.refl _ _).drew).rd
  obtain ⟨d0, d1, d2, d3, d4⟩ := P0.eye.facts
  have HP : Hid (Pair (w.alloc (.cells #[.int .i64 8, .int .i64 owhich, .int .i64 om, .int .u64 on, .slice oao ob.length ocap] 50)) r gr b gb xs pl f) := P0
  clear P P0 hk0
  go_enter Try.func25, Try.ntmps25
  go_wp2
  go_region_with (go_at_call 26; refine hu.mono ?_; rintro e w1 ⟨rfl, rfl⟩)
  all_goals go_wp2
  all_goals go_ret
  all_goals exact ⟨⟨_, rfl, by simp⟩, ⟨_, _, HP.out.box (Kept.refl _ _).drew⟩, HK.out.drew⟩

set_option maxRecDepth 100000 in
set_option maxHeartbeats 2000000 in
theorem reads_fault {w : World} {r gr b gb : Nat} {xs : List Int} {pl f : Nat} (P : Pair w r gr b gb xs pl f) (owhich om on : Int) (oao : Option Addr) (ocap : Nat) (ob : List Int) :
    Calls Try.prog 25 #[.pointer (some ⟨r, 0, none⟩), .pointer (some ⟨b, 0, none⟩), .agg #[.int .i64 9, .int .i64 owhich, .int .i64 om, .int .u64 on, .slice oao ob.length ocap]] w fun e w' => ReadsTo w w' r gr b gb xs e := by
  have hk0 : Kept [] w (w.alloc (.cells #[.int .i64 9, .int .i64 owhich, .int .i64 om, .int .u64 on, .slice oao ob.length ocap] 50)) := (Kept.refl _ w).alloc _
  have HK : Hid (Kept [r, b] w (w.alloc (.cells #[.int .i64 9, .int .i64 owhich, .int .i64 om, .int .u64 on, .slice oao ob.length ocap] 50))) := (Kept.refl _ w).alloc _
  have P0 := P.box hk0
  have hrl := lt_of_block P.rd.blk
  have hu := Fault_any (P0.box (Kept.refl _ _).drew).rd P.eye.bad
  obtain ⟨d0, d1, d2, d3, d4⟩ := P0.eye.facts
  have HP : Hid (Pair (w.alloc (.cells #[.int .i64 9, .int .i64 owhich, .int .i64 om, .int .u64 on, .slice oao ob.length ocap] 50)) r gr b gb xs pl f) := P0
  clear P P0 hk0
  generalize errL f = z at *
  go_enter Try.func25, Try.ntmps25
  go_wp2
  go_region_with (first
    | (go_at_call 28; refine hu.mono ?_; rintro e w1 ⟨rfl, rfl⟩)
    | (go_at_call 27; refine (num_any _ _).mono ?_; rintro e w2 ⟨rfl, rfl⟩))
  all_goals go_wp2
  all_goals go_ret
  all_goals exact ⟨⟨_, rfl, by simp⟩, ⟨_, _, HP.out.box (Kept.refl _ _).drew⟩, HK.out.drew⟩

set_option maxRecDepth 100000 in
set_option maxHeartbeats 2000000 in
theorem reads_end {w : World} {r gr b gb : Nat} {xs : List Int} {pl f : Nat} (P : Pair w r gr b gb xs pl f) (owhich om on : Int) (oao : Option Addr) (ocap : Nat) (ob : List Int) :
    Calls Try.prog 25 #[.pointer (some ⟨r, 0, none⟩), .pointer (some ⟨b, 0, none⟩), .agg #[.int .i64 10, .int .i64 owhich, .int .i64 om, .int .u64 on, .slice oao ob.length ocap]] w fun e w' => ReadsTo w w' r gr b gb xs e := by
  have hk0 : Kept [] w (w.alloc (.cells #[.int .i64 10, .int .i64 owhich, .int .i64 om, .int .u64 on, .slice oao ob.length ocap] 50)) := (Kept.refl _ w).alloc _
  have HK : Hid (Kept [r, b] w (w.alloc (.cells #[.int .i64 10, .int .i64 owhich, .int .i64 om, .int .u64 on, .slice oao ob.length ocap] 50))) := (Kept.refl _ w).alloc _
  have P0 := P.box hk0
  have hrl := lt_of_block P.rd.blk
  have hu := End_any P0.rd P.eye.bad
  have hE := fun n => EEnd_any (P0.eye.drewN n)
  have HP : Hid (Pair (w.alloc (.cells #[.int .i64 10, .int .i64 owhich, .int .i64 om, .int .u64 on, .slice oao ob.length ocap] 50)) r gr b gb xs pl f) := P0
  clear P P0 hk0
  generalize (if f ≠ 0 then errL f else if pl < xs.length then 13 else 0) = z at *
  go_enter Try.func25, Try.ntmps25
  go_wp2_with (first
    | (go_at_call 29; refine hu.mono ?_; rintro e w1 ⟨rfl, n1, rfl⟩)
    | (go_at_call 27; refine (num_any _ _).mono ?_; rintro e w2 ⟨rfl, rfl⟩)
    | (go_at_call 30; refine (hE n1).mono ?_; rintro e w2 ⟨rfl, n2, rfl⟩))
  go_ret
  exact ⟨⟨_, rfl, by simp⟩, ⟨_, _, HP.out.box ((Kept.refl _ _).drewN _)⟩, HK.out.drewN _⟩

set_option maxRecDepth 100000 in
set_option maxHeartbeats 2000000 in
theorem reads_other {w : World} {r gr b gb : Nat} {xs : List Int} {pl f : Nat} (P : Pair w r gr b gb xs pl f) (owhich om on : Int) (oao : Option Addr) (ocap : Nat) (ob : List Int) (okind : Int) (k1 : okind ≠ 1) (k2 : okind ≠ 2) (k3 : okind ≠ 3) (k4 : okind ≠ 4) (k5 : okind ≠ 5) (k6 : okind ≠ 6) (k7 : okind ≠ 7) (k8 : okind ≠ 8) (k9 : okind ≠ 9) (k10 : okind ≠ 10) :
    Calls Try.prog 25 #[.pointer (some ⟨r, 0, none⟩), .pointer (some ⟨b, 0, none⟩), .agg #[.int .i64 okind, .int .i64 owhich, .int .i64 om, .int .u64 on, .slice oao ob.length ocap]] w fun e w' => ReadsTo w w' r gr b gb xs e := by
  have hk0 : Kept [] w (w.alloc (.cells #[.int .i64 okind, .int .i64 owhich, .int .i64 om, .int .u64 on, .slice oao ob.length ocap] 50)) := (Kept.refl _ w).alloc _
  have HK : Hid (Kept [r, b] w (w.alloc (.cells #[.int .i64 okind, .int .i64 owhich, .int .i64 om, .int .u64 on, .slice oao ob.length ocap] 50))) := (Kept.refl _ w).alloc _
  have P0 := P.box hk0
  have hrl := lt_of_block P.rd.blk
  have e1 : (okind == 1) = false := beq_eq_false_iff_ne.2 k1
  have e2 : (okind == 2) = false := beq_eq_false_iff_ne.2 k2
  have e3 : (okind == 3) = false := beq_eq_false_iff_ne.2 k3
  have e4 : (okind == 4) = false := beq_eq_false_iff_ne.2 k4
  have e5 : (okind == 5) = false := beq_eq_false_iff_ne.2 k5
  have e6 : (okind == 6) = false := beq_eq_false_iff_ne.2 k6
  have e7 : (okind == 7) = false := beq_eq_false_iff_ne.2 k7
  have e8 : (okind == 8) = false := beq_eq_false_iff_ne.2 k8
  have e9 : (okind == 9) = false := beq_eq_false_iff_ne.2 k9
  have e10 : (okind == 10) = false := beq_eq_false_iff_ne.2 k10
  have HP : Hid (Pair (w.alloc (.cells #[.int .i64 okind, .int .i64 owhich, .int .i64 om, .int .u64 on, .slice oao ob.length ocap] 50)) r gr b gb xs pl f) := P0
  clear P P0 hk0 k1 k2 k3 k4 k5 k6 k7 k8 k9 k10
  go_enter Try.func25, Try.ntmps25
  go_wp2
  go_ret
  exact ⟨⟨true, rfl, rfl⟩, ⟨_, _, HP.out⟩, HK.out⟩

/-- 'reads', for every pair and step. -/
theorem reads_any {w : World} {r gr b gb : Nat} {xs : List Int} {pl f : Nat} (P : Pair w r gr b gb xs pl f) (okind owhich om on : Int) (oao : Option Addr) (ocap : Nat) (ob : List Int)
    (hm0 : -9223372036854775808 ≤ om) (hm1 : om ≤ 9223372036854775807) (hn1 : on ≤ 18446744073709551615) :
    Calls Try.prog 25 #[.pointer (some ⟨r, 0, none⟩), .pointer (some ⟨b, 0, none⟩), .agg #[.int .i64 okind, .int .i64 owhich, .int .i64 om, .int .u64 on, .slice oao ob.length ocap]] w fun e w' => ReadsTo w w' r gr b gb xs e := by
  by_cases k1 : okind = 1
  · subst k1; exact reads_u8 P _ _ _ _ _ _
  by_cases k2 : okind = 2
  · subst k2; exact reads_u32 P _ _ _ _ _ _
  by_cases k3 : okind = 3
  · subst k3; exact reads_u64 P _ _ _ _ _ _
  by_cases k4 : okind = 4
  · subst k4; exact reads_var P _ _ _ _ _ _ hn1
  by_cases k5 : okind = 5
  · subst k5; exact reads_bytes P _ _ _ _ _ _ hm0 hm1
  by_cases k6 : okind = 6
  · subst k6; exact reads_raw P _ _ _ _ _ _ hm0 hm1
  by_cases k7 : okind = 7
  · subst k7; exact reads_left P _ _ _ _ _ _
  by_cases k8 : okind = 8
  · subst k8; exact reads_at P _ _ _ _ _ _
  by_cases k9 : okind = 9
  · subst k9; exact reads_fault P _ _ _ _ _ _
  by_cases k10 : okind = 10
  · subst k10; exact reads_end P _ _ _ _ _ _
  exact reads_other P _ _ _ _ _ _ _ k1 k2 k3 k4 k5 k6 k7 k8 k9 k10
end Go.Proofs.Ytkhcofdcokngkaa
