/-
  WALK: satchellaw1.again, for every Reader without a fault, every Writer and step.
-/
import Derived.Test.YtbflokiijfomeaaAgain
namespace Go.Proofs.Ytbflokiijfomeaa
open Go.RowKit

/-- What 'again' leaves. -/
def Both (w w' : World) (r g wb B : Nat) (xs us : List Int) (pl f : Nat) (S : List Nat) : Prop :=
  Rdr w' r g xs pl f ∧ ∃ S', WAt w' wb B us S' ∧ Kept (r :: S) w w' ∧ ∀ x, x ∈ S' → x ∈ S ∨ w.heap.size ≤ x

theorem both_of {w w0 w1 w2 : World} {r g wb B : Nat} {xs us : List Int} {pl f : Nat} {S : List Nat} (k0 : Kept [] w w0) (hr : Rdr w1 r g xs pl f) (k1 : Kept [r] w0 w1) (hw : Wrote w1 w2 wb B us S) (hrS : r ∉ S) (hgS : g ∉ S) : Both w w2 r g wb B xs us pl f S := by
  obtain ⟨S', hS', k2, hs⟩ := hw
  refine ⟨hr.kept k2 hrS hgS, S', hS', ?_, fun x hx => ?_⟩
  · exact ((k0.more (S' := r :: S) (by simp)).trans (k1.more (S' := r :: S) (by simp)) (fun x hx => Or.inl hx)).trans k2 (fun x hx => Or.inl (by simp [hx]))
  · rcases hs x hx with h | h
    · exact Or.inl h
    · exact Or.inr (by have := k0.size; have := k1.size; omega)

theorem take_octs (xs : List Int) (ho : Octs xs) (pl f : Nat) (kind size most : Int) : Octs (takeL xs pl f kind size most).text := by
  unfold takeL
  split
  · intro u hu; simp at hu
  · split
    · intro u hu; simp at hu
    · exact octs_drop (octs_take (octs_drop ho pl) _) _
theorem bytes_row {w : World} {q : Nat} {ys : List Int} (h : w.heap[q]? = some (.cells (ys.map (Value.int .u8)).toArray 5 (0, 0))) : BytesAt w (.slice (some ⟨q, 0, none⟩) ys.length ys.length) ys := by
  have := BytesAt.seg h 0 ys.length ys.length (by omega) (Nat.le_refl _)
  simpa using this

set_option maxHeartbeats 1000000 in
theorem again_u8 {w : World} {r g wb B : Nat} {xs zs : List Int} {pl : Nat} {S : List Nat} (R : Rdr w r g xs pl 0) (h : WAt w wb B zs S) (hBw : B ≤ w.heap.size) (hrS : r ∉ S) (hgS : g ∉ S) (owhich om on : Int) (oao : Option Addr) (obl ocap : Nat) (hz : zs.length ≤ pl) (hsm : xs.length ≤ 140737488351232) (y : Took) (hy : Hid (y = takeL xs pl 0 0 1 0)) :
    Calls Try.prog 32 #[.pointer (some ⟨r, 0, none⟩), .pointer (some ⟨wb, 0, none⟩), .agg #[.int .i64 1, .int .i64 owhich, .int .i64 om, .int .u64 on, .slice oao obl ocap]] w fun e w' =>
      e = .returned (.tuple #[]) ∧ Both w w' r g wb B xs (zs ++ fixedB y.n 1) y.pl y.f S := by
  have k0 : Kept [] w (w.alloc (.cells #[.int .i64 1, .int .i64 owhich, .int .i64 om, .int .u64 on, .slice oao obl ocap] 37)) := (Kept.refl _ _).alloc _
  have hsz0 : B ≤ (w.alloc (.cells #[.int .i64 1, .int .i64 owhich, .int .i64 om, .int .u64 on, .slice oao obl ocap] 37)).heap.size := by rw [World.size_alloc]; omega
  have hple := R.le
  have hoct := R.oct
  have HW : Hid (∀ w1, Kept [r] (w.alloc (.cells #[.int .i64 1, .int .i64 owhich, .int .i64 om, .int .u64 on, .slice oao obl ocap] 37)) w1 → WAt w1 wb B zs S ∧ B ≤ w1.heap.size) := fun w1 k1 => ⟨(h.kept k0 (by simp)).kept k1 (fun x hx => by simp; rintro rfl; exact hrS hx), Nat.le_trans hsz0 k1.size⟩
  have hfr := takeL_frame xs hoct pl hple 0 1 0 (by decide) (by decide)
  rw [← hy.out] at hfr
  have hb : (takeL xs pl 0 0 1 0).n < 256 ^ 1 := (take_lt xs hoct pl 0 1).2
  rw [← hy.out] at hb
  have hb1 : y.n ≤ 255 := by simpa using Int.le_sub_one_of_lt hb
  have HU : Hid (∀ w1, Rdr w1 r g xs y.pl y.f → Kept [r] (w.alloc (.cells #[.int .i64 1, .int .i64 owhich, .int .i64 om, .int .u64 on, .slice oao obl ocap] 37)) w1 → Calls Try.prog 28 #[.pointer (some ⟨wb, 0, none⟩), .int .u8 y.n] w1 fun e w' => e = .returned (.tuple #[]) ∧ Both w w' r g wb B xs (zs ++ fixedB y.n 1) y.pl y.f S) := fun w1 hr hk =>
    (WU8_any (HW.out w1 hk).1 (HW.out w1 hk).2 y.n hfr.2.2.2.2.2.1 hb1 (by omega)).mono fun e w2 ⟨he, hwr⟩ => ⟨he, both_of k0 hr hk hwr hrS hgS⟩
  have hu := U8_any (R.kept k0 (by simp) (by simp)) y hy
  clear R h hy HW k0 hsz0 hoct
  go_enter Try.func32, Try.ntmps32
  go_wp2_with (first | (go_at_call 30; refine hu.mono ?_; rintro e w1 ⟨rfl, hr1, hk1⟩) | (go_at_call 28; refine (HU.out _ hr1 hk1).mono ?_; rintro e w2 ⟨rfl, hbo⟩))
  go_end0
  exact ⟨rfl, hbo⟩

set_option maxHeartbeats 1000000 in
theorem again_u32 {w : World} {r g wb B : Nat} {xs zs : List Int} {pl : Nat} {S : List Nat} (R : Rdr w r g xs pl 0) (h : WAt w wb B zs S) (hBw : B ≤ w.heap.size) (hrS : r ∉ S) (hgS : g ∉ S) (owhich om on : Int) (oao : Option Addr) (obl ocap : Nat) (hz : zs.length ≤ pl) (hsm : xs.length ≤ 140737488351232) (y : Took) (hy : Hid (y = takeL xs pl 0 0 4 0)) :
    Calls Try.prog 32 #[.pointer (some ⟨r, 0, none⟩), .pointer (some ⟨wb, 0, none⟩), .agg #[.int .i64 2, .int .i64 owhich, .int .i64 om, .int .u64 on, .slice oao obl ocap]] w fun e w' =>
      e = .returned (.tuple #[]) ∧ Both w w' r g wb B xs (zs ++ fixedB y.n 4) y.pl y.f S := by
  have k0 : Kept [] w (w.alloc (.cells #[.int .i64 2, .int .i64 owhich, .int .i64 om, .int .u64 on, .slice oao obl ocap] 37)) := (Kept.refl _ _).alloc _
  have hsz0 : B ≤ (w.alloc (.cells #[.int .i64 2, .int .i64 owhich, .int .i64 om, .int .u64 on, .slice oao obl ocap] 37)).heap.size := by rw [World.size_alloc]; omega
  have hple := R.le
  have hoct := R.oct
  have HW : Hid (∀ w1, Kept [r] (w.alloc (.cells #[.int .i64 2, .int .i64 owhich, .int .i64 om, .int .u64 on, .slice oao obl ocap] 37)) w1 → WAt w1 wb B zs S ∧ B ≤ w1.heap.size) := fun w1 k1 => ⟨(h.kept k0 (by simp)).kept k1 (fun x hx => by simp; rintro rfl; exact hrS hx), Nat.le_trans hsz0 k1.size⟩
  have hfr := takeL_frame xs hoct pl hple 0 4 0 (by decide) (by decide)
  rw [← hy.out] at hfr
  have hb : (takeL xs pl 0 0 4 0).n < 256 ^ 4 := (take_lt xs hoct pl 0 4).2
  rw [← hy.out] at hb
  have hb1 : y.n ≤ 4294967295 := by simpa using Int.le_sub_one_of_lt hb
  have HU : Hid (∀ w1, Rdr w1 r g xs y.pl y.f → Kept [r] (w.alloc (.cells #[.int .i64 2, .int .i64 owhich, .int .i64 om, .int .u64 on, .slice oao obl ocap] 37)) w1 → Calls Try.prog 18 #[.pointer (some ⟨wb, 0, none⟩), .int .u32 y.n] w1 fun e w' => e = .returned (.tuple #[]) ∧ Both w w' r g wb B xs (zs ++ fixedB y.n 4) y.pl y.f S) := fun w1 hr hk =>
    (WU32_any (HW.out w1 hk).1 (HW.out w1 hk).2 y.n hfr.2.2.2.2.2.1 hb1 (by omega)).mono fun e w2 ⟨he, hwr⟩ => ⟨he, both_of k0 hr hk hwr hrS hgS⟩
  have hu := U32_any (R.kept k0 (by simp) (by simp)) y hy
  clear R h hy HW k0 hsz0 hoct
  go_enter Try.func32, Try.ntmps32
  go_wp2_with (first | (go_at_call 25; refine hu.mono ?_; rintro e w1 ⟨rfl, hr1, hk1⟩) | (go_at_call 18; refine (HU.out _ hr1 hk1).mono ?_; rintro e w2 ⟨rfl, hbo⟩))
  go_end0
  exact ⟨rfl, hbo⟩

set_option maxHeartbeats 1000000 in
theorem again_u64 {w : World} {r g wb B : Nat} {xs zs : List Int} {pl : Nat} {S : List Nat} (R : Rdr w r g xs pl 0) (h : WAt w wb B zs S) (hBw : B ≤ w.heap.size) (hrS : r ∉ S) (hgS : g ∉ S) (owhich om on : Int) (oao : Option Addr) (obl ocap : Nat) (hz : zs.length ≤ pl) (hsm : xs.length ≤ 140737488351232) (y : Took) (hy : Hid (y = takeL xs pl 0 0 8 0)) :
    Calls Try.prog 32 #[.pointer (some ⟨r, 0, none⟩), .pointer (some ⟨wb, 0, none⟩), .agg #[.int .i64 3, .int .i64 owhich, .int .i64 om, .int .u64 on, .slice oao obl ocap]] w fun e w' =>
      e = .returned (.tuple #[]) ∧ Both w w' r g wb B xs (zs ++ fixedB y.n 8) y.pl y.f S := by
  have k0 : Kept [] w (w.alloc (.cells #[.int .i64 3, .int .i64 owhich, .int .i64 om, .int .u64 on, .slice oao obl ocap] 37)) := (Kept.refl _ _).alloc _
  have hsz0 : B ≤ (w.alloc (.cells #[.int .i64 3, .int .i64 owhich, .int .i64 om, .int .u64 on, .slice oao obl ocap] 37)).heap.size := by rw [World.size_alloc]; omega
  have hple := R.le
  have hoct := R.oct
  have HW : Hid (∀ w1, Kept [r] (w.alloc (.cells #[.int .i64 3, .int .i64 owhich, .int .i64 om, .int .u64 on, .slice oao obl ocap] 37)) w1 → WAt w1 wb B zs S ∧ B ≤ w1.heap.size) := fun w1 k1 => ⟨(h.kept k0 (by simp)).kept k1 (fun x hx => by simp; rintro rfl; exact hrS hx), Nat.le_trans hsz0 k1.size⟩
  have HU : Hid (∀ w1, Rdr w1 r g xs y.pl y.f → Kept [r] (w.alloc (.cells #[.int .i64 3, .int .i64 owhich, .int .i64 om, .int .u64 on, .slice oao obl ocap] 37)) w1 → Calls Try.prog 47 #[.pointer (some ⟨wb, 0, none⟩), .int .u64 y.n] w1 fun e w' => e = .returned (.tuple #[]) ∧ Both w w' r g wb B xs (zs ++ fixedB y.n 8) y.pl y.f S) := fun w1 hr hk =>
    (WU64_any (HW.out w1 hk).1 (HW.out w1 hk).2 y.n (by omega)).mono fun e w2 ⟨he, hwr⟩ => ⟨he, both_of k0 hr hk hwr hrS hgS⟩
  have hu := U64_any (R.kept k0 (by simp) (by simp)) y hy
  clear R h hy HW k0 hsz0 hoct
  go_enter Try.func32, Try.ntmps32
  go_wp2_with (first | (go_at_call 9; refine hu.mono ?_; rintro e w1 ⟨rfl, hr1, hk1⟩) | (go_at_call 47; refine (HU.out _ hr1 hk1).mono ?_; rintro e w2 ⟨rfl, hbo⟩))
  go_end0
  exact ⟨rfl, hbo⟩

set_option maxHeartbeats 1000000 in
theorem again_var {w : World} {r g wb B : Nat} {xs zs : List Int} {pl : Nat} {S : List Nat} (R : Rdr w r g xs pl 0) (h : WAt w wb B zs S) (hBw : B ≤ w.heap.size) (hrS : r ∉ S) (hgS : g ∉ S) (owhich om on : Int) (oao : Option Addr) (obl ocap : Nat) (hn1 : on ≤ 18446744073709551615) (hz : zs.length ≤ pl) (hsm : xs.length ≤ 140737488351232) (y : Took) (hy : Hid (y = takeL xs pl 0 1 0 on)) :
    Calls Try.prog 32 #[.pointer (some ⟨r, 0, none⟩), .pointer (some ⟨wb, 0, none⟩), .agg #[.int .i64 4, .int .i64 owhich, .int .i64 om, .int .u64 on, .slice oao obl ocap]] w fun e w' =>
      e = .returned (.tuple #[]) ∧ Both w w' r g wb B xs (zs ++ varB y.n) y.pl y.f S := by
  have k0 : Kept [] w (w.alloc (.cells #[.int .i64 4, .int .i64 owhich, .int .i64 om, .int .u64 on, .slice oao obl ocap] 37)) := (Kept.refl _ _).alloc _
  have hsz0 : B ≤ (w.alloc (.cells #[.int .i64 4, .int .i64 owhich, .int .i64 om, .int .u64 on, .slice oao obl ocap] 37)).heap.size := by rw [World.size_alloc]; omega
  have hple := R.le
  have hoct := R.oct
  have HW : Hid (∀ w1, Kept [r] (w.alloc (.cells #[.int .i64 4, .int .i64 owhich, .int .i64 om, .int .u64 on, .slice oao obl ocap] 37)) w1 → WAt w1 wb B zs S ∧ B ≤ w1.heap.size) := fun w1 k1 => ⟨(h.kept k0 (by simp)).kept k1 (fun x hx => by simp; rintro rfl; exact hrS hx), Nat.le_trans hsz0 k1.size⟩
  have hfr := takeL_frame xs hoct pl hple 1 0 on (by decide) hn1
  rw [← hy.out] at hfr
  have HU : Hid (∀ w1, Rdr w1 r g xs y.pl y.f → Kept [r] (w.alloc (.cells #[.int .i64 4, .int .i64 owhich, .int .i64 om, .int .u64 on, .slice oao obl ocap] 37)) w1 → Calls Try.prog 41 #[.pointer (some ⟨wb, 0, none⟩), .int .u64 y.n] w1 fun e w' => e = .returned (.tuple #[]) ∧ Both w w' r g wb B xs (zs ++ varB y.n) y.pl y.f S) := fun w1 hr hk =>
    (WVar_any (HW.out w1 hk).1 (HW.out w1 hk).2 y.n hfr.2.2.2.2.2.1 hfr.2.2.2.2.2.2 (by omega)).mono fun e w2 ⟨he, hwr⟩ => ⟨he, both_of k0 hr hk hwr hrS hgS⟩
  have hu := Var_any (R.kept k0 (by simp) (by simp)) on hn1 y hy
  clear R h hy HW k0 hsz0 hoct
  go_enter Try.func32, Try.ntmps32
  go_wp2_with (first | (go_at_call 36; refine hu.mono ?_; rintro e w1 ⟨rfl, hr1, hk1⟩) | (go_at_call 41; refine (HU.out _ hr1 hk1).mono ?_; rintro e w2 ⟨rfl, hbo⟩))
  go_end0
  exact ⟨rfl, hbo⟩

set_option maxHeartbeats 1000000 in
theorem again_bytes {w : World} {r g wb B : Nat} {xs zs : List Int} {pl : Nat} {S : List Nat} (R : Rdr w r g xs pl 0) (h : WAt w wb B zs S) (hBw : B ≤ w.heap.size) (hrS : r ∉ S) (hgS : g ∉ S) (owhich om on : Int) (oao : Option Addr) (obl ocap : Nat) (hm1 : om ≤ 9223372036854775807) (hz : zs.length ≤ pl) (hsm : xs.length ≤ 140737488351232) (y : Took) (hy : Hid (y = takeL xs pl 0 2 0 (max om 0))) :
    Calls Try.prog 32 #[.pointer (some ⟨r, 0, none⟩), .pointer (some ⟨wb, 0, none⟩), .agg #[.int .i64 5, .int .i64 owhich, .int .i64 om, .int .u64 on, .slice oao obl ocap]] w fun e w' =>
      e = .returned (.tuple #[]) ∧ Both w w' r g wb B xs (zs ++ (varB y.text.length ++ y.text)) y.pl y.f S := by
  have k0 : Kept [] w (w.alloc (.cells #[.int .i64 5, .int .i64 owhich, .int .i64 om, .int .u64 on, .slice oao obl ocap] 37)) := (Kept.refl _ _).alloc _
  have hsz0 : B ≤ (w.alloc (.cells #[.int .i64 5, .int .i64 owhich, .int .i64 om, .int .u64 on, .slice oao obl ocap] 37)).heap.size := by rw [World.size_alloc]; omega
  have hple := R.le
  have hoct := R.oct
  have HW : Hid (∀ w1, Kept [r] (w.alloc (.cells #[.int .i64 5, .int .i64 owhich, .int .i64 om, .int .u64 on, .slice oao obl ocap] 37)) w1 → WAt w1 wb B zs S ∧ B ≤ w1.heap.size) := fun w1 k1 => ⟨(h.kept k0 (by simp)).kept k1 (fun x hx => by simp; rintro rfl; exact hrS hx), Nat.le_trans hsz0 k1.size⟩
  have hfr := takeL_frame xs hoct pl hple 2 0 (max om 0) (by decide) (by omega)
  rw [← hy.out] at hfr
  have hto : Octs y.text := by rw [hy.out]; exact take_octs xs hoct pl 0 2 0 _
  have HU : Hid (∀ w1 (q : Nat), w1.heap[q]? = some (.cells (y.text.map (Value.int .u8)).toArray 5 (0, 0)) → q ∉ S → Rdr w1 r g xs y.pl y.f → Kept [r] (w.alloc (.cells #[.int .i64 5, .int .i64 owhich, .int .i64 om, .int .u64 on, .slice oao obl ocap] 37)) w1 → Calls Try.prog 20 #[.pointer (some ⟨wb, 0, none⟩), .slice (some ⟨q, 0, none⟩) y.text.length y.text.length] w1 fun e w' => e = .returned (.tuple #[]) ∧ Both w w' r g wb B xs (zs ++ (varB y.text.length ++ y.text)) y.pl y.f S) := fun w1 q hq hqS hr hk => by
    rw [← List.append_assoc]
    exact (WBytes_any (HW.out w1 hk).1 (HW.out w1 hk).2 _ y.text (bytes_row hq) (fun _ b hb => by simp [blkOf] at hb; subst hb; exact hqS) hto (by omega)).mono fun e w2 ⟨he, hwr⟩ => ⟨he, both_of k0 hr hk hwr hrS hgS⟩
  have hu := Bytes_any (R.kept k0 (by simp) (by simp)) om hm1 y hy
  have hnew : ∀ q, (w.alloc (.cells #[.int .i64 5, .int .i64 owhich, .int .i64 om, .int .u64 on, .slice oao obl ocap] 37)).heap.size ≤ q → q ∉ S := fun q hq hS => by have := (h.lt q hS).2; rw [World.size_alloc] at hq; omega
  clear R h hy HW k0 hsz0 hoct
  go_enter Try.func32, Try.ntmps32
  go_wp2_with (first | (go_at_call 37; refine hu.mono ?_; rintro e w1 ⟨q, rfl, hq, hql, hr1, hk1⟩; have HQ : Hid _ := hq; clear hq) | (go_at_call 20; refine (HU.out _ q HQ.out (hnew q hql) hr1 hk1).mono ?_; rintro e w2 ⟨rfl, hbo⟩))
  go_end0
  exact ⟨rfl, hbo⟩

set_option maxHeartbeats 1000000 in
theorem again_raw {w : World} {r g wb B : Nat} {xs zs : List Int} {pl : Nat} {S : List Nat} (R : Rdr w r g xs pl 0) (h : WAt w wb B zs S) (hBw : B ≤ w.heap.size) (hrS : r ∉ S) (hgS : g ∉ S) (owhich om on : Int) (oao : Option Addr) (obl ocap : Nat) (hm0 : -9223372036854775808 ≤ om) (hm1 : om ≤ 9223372036854775807) (hz : zs.length ≤ pl) (hsm : xs.length ≤ 140737488351232) (y : Took) (hy : Hid (y = takeL xs pl 0 3 (om % 20) 0)) :
    Calls Try.prog 32 #[.pointer (some ⟨r, 0, none⟩), .pointer (some ⟨wb, 0, none⟩), .agg #[.int .i64 6, .int .i64 owhich, .int .i64 om, .int .u64 on, .slice oao obl ocap]] w fun e w' =>
      e = .returned (.tuple #[]) ∧ Both w w' r g wb B xs (zs ++ y.text) y.pl y.f S := by
  have k0 : Kept [] w (w.alloc (.cells #[.int .i64 6, .int .i64 owhich, .int .i64 om, .int .u64 on, .slice oao obl ocap] 37)) := (Kept.refl _ _).alloc _
  have hsz0 : B ≤ (w.alloc (.cells #[.int .i64 6, .int .i64 owhich, .int .i64 om, .int .u64 on, .slice oao obl ocap] 37)).heap.size := by rw [World.size_alloc]; omega
  have hple := R.le
  have hoct := R.oct
  have HW : Hid (∀ w1, Kept [r] (w.alloc (.cells #[.int .i64 6, .int .i64 owhich, .int .i64 om, .int .u64 on, .slice oao obl ocap] 37)) w1 → WAt w1 wb B zs S ∧ B ≤ w1.heap.size) := fun w1 k1 => ⟨(h.kept k0 (by simp)).kept k1 (fun x hx => by simp; rintro rfl; exact hrS hx), Nat.le_trans hsz0 k1.size⟩
  have hfr := takeL_frame xs hoct pl hple 3 (om % 20) 0 (fun h => absurd h (by decide)) (by decide)
  rw [← hy.out] at hfr
  have hto : Octs y.text := by rw [hy.out]; exact take_octs xs hoct pl 0 3 _ 0
  have HU : Hid (∀ w1 (q : Nat), w1.heap[q]? = some (.cells (y.text.map (Value.int .u8)).toArray 5 (0, 0)) → Rdr w1 r g xs y.pl y.f → Kept [r] (w.alloc (.cells #[.int .i64 6, .int .i64 owhich, .int .i64 om, .int .u64 on, .slice oao obl ocap] 37)) w1 → Calls Try.prog 42 #[.pointer (some ⟨wb, 0, none⟩), .slice (some ⟨q, 0, none⟩) y.text.length y.text.length] w1 fun e w' => e = .returned (.tuple #[]) ∧ Both w w' r g wb B xs (zs ++ y.text) y.pl y.f S) := fun w1 q hq hr hk =>
    (WRaw_any (HW.out w1 hk).1 (HW.out w1 hk).2 _ y.text (bytes_row hq) hto (by omega)).mono fun e w2 ⟨he, hwr⟩ => ⟨he, both_of k0 hr hk hwr hrS hgS⟩
  have hu := Raw_any (R.kept k0 (by simp) (by simp)) (om % 20) (by omega) y hy
  clear R h hy HW k0 hsz0 hoct
  go_enter Try.func32, Try.ntmps32
  go_wp2_with (first | (go_at_call 16; refine (into_any om 20 _ (by decide) (by decide) hm0 hm1).mono ?_; rintro e w1 ⟨rfl, rfl⟩) | (go_at_call 38; refine hu.mono ?_; rintro e w1 ⟨q, rfl, hq, hql, hr1, hk1⟩; have HQ : Hid _ := hq; clear hq) | (go_at_call 42; refine (HU.out _ q HQ.out hr1 hk1).mono ?_; rintro e w2 ⟨rfl, hbo⟩))
  go_end0
  exact ⟨rfl, hbo⟩

set_option maxHeartbeats 1000000 in
theorem again_other {w : World} {r g wb B : Nat} {xs zs : List Int} {pl : Nat} {S : List Nat} (R : Rdr w r g xs pl 0) (h : WAt w wb B zs S) (okind owhich om on : Int) (oao : Option Addr) (obl ocap : Nat)
    (k1 : okind ≠ 1) (k2 : okind ≠ 2) (k3 : okind ≠ 3) (k4 : okind ≠ 4) (k5 : okind ≠ 5) (k6 : okind ≠ 6) :
    Calls Try.prog 32 #[.pointer (some ⟨r, 0, none⟩), .pointer (some ⟨wb, 0, none⟩), .agg #[.int .i64 okind, .int .i64 owhich, .int .i64 om, .int .u64 on, .slice oao obl ocap]] w fun e w' =>
      e = .returned (.tuple #[]) ∧ Both w w' r g wb B xs (zs ++ []) pl 0 S := by
  have k0 : Kept [] w (w.alloc (.cells #[.int .i64 okind, .int .i64 owhich, .int .i64 om, .int .u64 on, .slice oao obl ocap] 37)) := (Kept.refl _ _).alloc _
  have HB : Hid (Both w (w.alloc (.cells #[.int .i64 okind, .int .i64 owhich, .int .i64 om, .int .u64 on, .slice oao obl ocap] 37)) r g wb B xs zs pl 0 S) :=
    ⟨R.kept k0 (by simp) (by simp), S, h.kept k0 (by simp), k0.more (by simp), fun x hx => Or.inl hx⟩
  have e1 : (okind == 1) = false := beq_eq_false_iff_ne.2 k1
  have e2 : (okind == 2) = false := beq_eq_false_iff_ne.2 k2
  have e3 : (okind == 3) = false := beq_eq_false_iff_ne.2 k3
  have e4 : (okind == 4) = false := beq_eq_false_iff_ne.2 k4
  have e5 : (okind == 5) = false := beq_eq_false_iff_ne.2 k5
  have e6 : (okind == 6) = false := beq_eq_false_iff_ne.2 k6
  rw [List.append_nil]
  clear R h k0 k1 k2 k3 k4 k5 k6
  go_enter Try.func32, Try.ntmps32
  go_wp2
  go_end0
  exact ⟨rfl, HB.out⟩

theorem again_any {w : World} {r g wb B : Nat} {xs zs : List Int} {pl : Nat} {S : List Nat} (R : Rdr w r g xs pl 0) (h : WAt w wb B zs S) (hBw : B ≤ w.heap.size) (hrS : r ∉ S) (hgS : g ∉ S) (o : COp) {w0 : World} (hg : COp.Good o w0)
    (hz : zs.length ≤ pl) (hsm : xs.length ≤ 140737488351232) :
    Calls Try.prog 32 #[.pointer (some ⟨r, 0, none⟩), .pointer (some ⟨wb, 0, none⟩), .agg #[.int .i64 o.kind, .int .i64 o.which, .int .i64 o.m, .int .u64 o.n, .slice o.ao o.b.length o.cap]] w fun e w' =>
      e = .returned (.tuple #[]) ∧ Both w w' r g wb B xs (zs ++ encO o (tookO xs pl 0 o)) (tookO xs pl 0 o).pl (tookO xs pl 0 o).f S := by
  have hn1 := hg.n1
  have hm0 := hg.m0
  have hm1 := hg.m1
  obtain ⟨okind, owhich, om, on, oao, ocap, ob⟩ := o
  unfold encO tookO
  dsimp only at *
  by_cases k1 : okind = 1
  · simp only [if_pos k1]; subst k1; exact again_u8 R h hBw hrS hgS _ _ _ _ _ _ hz hsm _ rfl
  by_cases k2 : okind = 2
  · simp only [if_neg k1, if_pos k2]; subst k2; exact again_u32 R h hBw hrS hgS _ _ _ _ _ _ hz hsm _ rfl
  by_cases k3 : okind = 3
  · simp only [if_neg k1, if_neg k2, if_pos k3]; subst k3; exact again_u64 R h hBw hrS hgS _ _ _ _ _ _ hz hsm _ rfl
  by_cases k4 : okind = 4
  · simp only [if_neg k1, if_neg k2, if_neg k3, if_pos k4]; subst k4; exact again_var R h hBw hrS hgS _ _ _ _ _ _ hn1 hz hsm _ rfl
  by_cases k5 : okind = 5
  · simp only [if_neg k1, if_neg k2, if_neg k3, if_neg k4, if_pos k5]; subst k5; exact again_bytes R h hBw hrS hgS _ _ _ _ _ _ hm1 hz hsm _ rfl
  by_cases k6 : okind = 6
  · simp only [if_neg k1, if_neg k2, if_neg k3, if_neg k4, if_neg k5, if_pos k6]; subst k6; exact again_raw R h hBw hrS hgS _ _ _ _ _ _ hm0 hm1 hz hsm _ rfl
  simp only [if_neg k1, if_neg k2, if_neg k3, if_neg k4, if_neg k5, if_neg k6]
  exact again_other R h _ _ _ _ _ _ _ k1 k2 k3 k4 k5 k6

end Go.Proofs.Ytbflokiijfomeaa
