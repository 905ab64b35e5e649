/-
  WALK: (*store.Store).Put, of bytes that object.Parse refuses.
  GUESS of satchelref3 in memory; WALKS: its one, id, number, time.
  PLAIN MATHEMATICS, continued: writing and reading are inverse: one way to write what can be read. No Go text is named here.
  PLAIN: what is written is read, item by item, under any bound that lets it be.
-/
import Derived.Test.YtddhhjgegkkjbaaGreatDoorSp1
import Derived.Test.YtddhhjgegkkjbaaGreatDoorSha2
import Derived.Test.YtddhhjgegkkjbaaGreatDoorStep
import Derived.Test.YtddhhjgegkkjbaaGreatDoorIdEq
import Derived.Test.YtddhhjgegkkjbaaGreatDoorPlain
import Derived.Deep.MidRow
import Derived.Deep.QuietTactic
import Derived.Deep.RegionWith
import Derived.Test.YtddhhjgegkkjbaaGreatDoorReaderV
namespace Go.Proofs.YtddhhjgegkkjbaaGreatDoor
open Go.RowKit Go.WideMaps

set_option maxRecDepth 100000 in
set_option maxHeartbeats 4000000 in
theorem Put_bad {w : World} {s b n : Nat} {D : DataW Unit} (h : St w s b n D) (ao : Option Addr) (m cap : Nat) (er : Int) (her : er ≠ 0) (hparse : ∀ W, Kept [] w W → Calls Tryz.prog 23 #[.slice ao m cap] W fun e w' => ∃ br : Array Value, e = .returned (.tuple #[.agg br, .int .i64 er]) ∧ br.size = 76 ∧ br.all (·.oneCell') = true ∧ Kept [] W w') :
    Calls Tryz.prog 11 #[.pointer (some ⟨s, 0, none⟩), .slice ao m cap] w fun e w' => e = .returned (.tuple #[.agg (idC zid), .bool false, .int .i64 40]) ∧ St w' s b n D ∧ Kept [] w w' := by
  obtain ⟨w0, hw0⟩ : ∃ w0, w0 = w.alloc (.cells (idC zid) 36) := ⟨_, rfl⟩
  have k0 : Kept [] w w0 := by rw [hw0]; exact (Kept.refl _ _).alloc _
  have HW0 : Hid (w0 = w.alloc (.cells (idC zid) 36)) := hw0
  have HK0 : Hid (Kept [] w w0) := k0
  have HI0 : Hid (∀ W, Kept [] w0 W → W.heap[w.heap.size]? = some (.cells (idC zid) 36 (0, 0))) := fun W k => k.heap (show w0.heap[w.heap.size]? = _ by rw [hw0]; exact heap_alloc_new w _) (by simp)
  have hpar := hparse w0 k0
  have HST : Hid (∀ W, Kept [] w W → St (W.setRow w.heap.size (idC zid)) s b n D ∧ Kept [] w (W.setRow w.heap.size (idC zid))) := fun W k => by
    have hl := h.lt
    exact ⟨(h.on k).keepR (r := w.heap.size) ⟨rfl, rfl, rfl, by simp [World.setRow], fun q _ hn => setRow_other W _ q _ (fun e => hn (by simp [e]))⟩ (by omega) (by omega) (h.below (Nat.le_refl _)), kept_setRow k (Nat.le_refl _) _⟩
  have hui := Tryz.underlying36
  have hzs : (Tryz.prog.info? 36).map (·.size) = some (idC zid).size := by kernel_rfl
  have hzone : (idC zid).all (·.oneCell') = true := by kernel_rfl
  have hbz : Tryz.prog.built 36 [] = some (idC zid) := by kernel_rfl
  have t1 : (er != 0) = true := by simpa using her
  have t2 : (er == 0) = false := by simpa using her
  clear h k0 hw0 hparse
  go_enter Tryz.func11, Tryz.ntmps11
  go_wp2_with fail
  change Calls Tryz.prog 23 #[.slice ao m cap] (w.alloc (.cells (idC zid) 36)) _
  rw [← HW0.out]
  go_at_call 23
  refine hpar.mono ?_
  rintro e w1 ⟨br, rfl, hoz, hpo, k1⟩
  have hos : (Tryz.prog.info? 61).map (·.size) = some br.size := by rw [hoz]; kernel_rfl
  have hoz2 : Tryz.zeroCells61.size = br.size := by rw [hoz]; kernel_rfl
  obtain ⟨w2, hw2⟩ : ∃ w2, w2 = w1.alloc (.cells br 61) := ⟨_, rfl⟩
  have HW2 : Hid (w2 = w1.alloc (.cells br 61)) := hw2
  have k2 : Kept [] w0 w2 := by rw [hw2]; exact k1.alloc _
  have HK2 : Hid (Kept [] w w2) := HK0.out.then k2
  have HI2 : Hid (w2.heap[w.heap.size]? = some (.cells (idC zid) 36 (0, 0))) := HI0.out w2 k2
  clear hpar k1 k2 hw2 hoz her
  go_wp2_with (first
    | (refine wpList_store_newS (by rfl) 61 (.tmp 7) (.tmp 15) (by rfl) w1 _ br (by rfl) (by rfl) hos hoz2 hpo ?_; rw [← HW2.out])
    | (refine wpList_build_someP (by rfl) 36 _ (by rfl) (idC zid) (by simp; exact hbz) ?_)
    | (refine wpList_store_row (by rfl) 36 (.tmp 4) (.tmp 19) (by rfl) w.heap.size (idC zid) (by rfl) (by rfl) 36 _ HI2.out hzs rfl hzone ?_))
  refine bodyPost_ret (v := .tuple #[.agg (idC zid), .bool false, .int .i64 40]) ?_ rfl ⟨rfl, (HST.out w2 HK2.out).1, (HST.out w2 HK2.out).2⟩
  have hld := run_loadVar_row (P := Tryz.prog) _ w.heap.size 36 36 (idC zid) (0, 0) _ (setRow_heap _ _ (idC zid) _ _ _ HI2.out) hui rfl hzs
  simp [results, Tryz.results11, asAddr, Result.andThen, hld]
end Go.Proofs.YtddhhjgegkkjbaaGreatDoor

namespace Go.Proofs.YtddhhjgegkkjbaaGreatDoor
open Go.RowKit

/-- The byte at a place; none: 0. -/
def xAt (xs : List Int) (p : Nat) : Int := xs[p]?.getD 0
def plus (xs : List Int) (p k : Nat) : Nat := min (p + k) xs.length
theorem xAt_oct {xs : List Int} (h : Octs xs) (p : Nat) : 0 ≤ xAt xs p ∧ xAt xs p ≤ 255 := by
  unfold xAt
  cases hx : xs[p]? with
  | none => simp
  | some u => exact h u (List.mem_of_getElem? hx)
/-- So many bytes from a place on; what is missing is 0. -/
def takeX (xs : List Int) (p k : Nat) : List Int := (List.range k).map fun i => xAt xs (p + i)
theorem takeX_len (xs : List Int) (p k : Nat) : (takeX xs p k).length = k := by simp [takeX]
theorem takeX_octs {xs : List Int} (h : Octs xs) (p k : Nat) : Octs (takeX xs p k) := fun u hu => by
  obtain ⟨i, _, rfl⟩ := List.mem_map.1 hu
  exact xAt_oct h _

end Go.Proofs.YtddhhjgegkkjbaaGreatDoor

namespace Go.Proofs.YtddhhjgegkkjbaaGreatDoor
open Go.RowKit

theorem fixedB_snoc (n : Int) (s : Nat) : fixedB n (s + 1) = fixedB (n / 256) s ++ [n % 256] := by
  unfold fixedB
  rw [List.range_succ, List.map_append]
  congr 1
  · refine List.map_congr_left fun i hi => ?_
    have hi := List.mem_range.1 hi
    rw [show s + 1 - 1 - i = (s - 1 - i) + 1 by omega, Int.pow_succ, Int.mul_comm, ← Int.ediv_ediv_of_nonneg (by decide)]
  · simp
/-- What is read as a number of so many bytes is written so. -/
theorem fixedB_be : ∀ (s : Nat) (l : List Int), l.length = s → Octs l → fixedB (be l) s = l := by
  intro s
  induction s with
  | zero => intro l hl _; rw [List.eq_nil_of_length_eq_zero hl]; rfl
  | succ s ih =>
    intro l hl ho
    rcases List.eq_nil_or_concat l with rfl | ⟨l', x, rfl⟩
    · simp at hl
    · rw [List.concat_eq_append] at *
      have hx := ho x (by simp)
      have hl' : l'.length = s := by simpa using hl
      rw [fixedB_snoc, be_snoc, show (be l' * 256 + x) / 256 = be l' by omega, show (be l' * 256 + x) % 256 = x by omega, ih l' hl' (fun u hu => ho u (by simp [hu]))]

theorem pow_pos128 (k : Nat) : (0 : Int) < 128 ^ k := Int.pow_pos (by decide)
theorem pow_mono128 {a b : Nat} (h : a ≤ b) : (128 : Int) ^ a ≤ 128 ^ b := by
  rw [pow128, pow128]
  exact Int.ofNat_le.2 (Nat.pow_le_pow_right (by decide) (by omega))
theorem lastOf_is (n : Int) (k : Nat) (h0 : 0 ≤ n) (h1 : n ≤ 18446744073709551615) (hk1 : n < 128 ^ (k + 1)) (hk0 : 1 ≤ k → 128 ^ k ≤ n) : lastOf n = k := by
  obtain ⟨g1, g2, _⟩ := lastOf_spec n h0 h1
  rcases Nat.lt_trichotomy (lastOf n) k with h | h | h
  · have := pow_mono128 (show lastOf n + 1 ≤ k by omega)
    have := hk0 (by omega)
    omega
  · exact h
  · have := pow_mono128 (show k + 1 ≤ lastOf n by omega)
    have := g2 (by omega)
    omega
theorem add_div128 (n s : Int) (k : Nat) (h0 : 0 ≤ n) (h1 : n < 128 ^ k) : (n + s * 128 ^ k) / 128 ^ k = s := by
  have hp := pow_pos128 k
  rw [Int.add_mul_ediv_right _ _ (by omega), Int.ediv_eq_zero_of_lt h0 h1]
  omega

/-- While a number is gathered: what is gathered so far, whatever comes behind, is written as what was read. -/
def Gath (n : Int) (i : Nat) (pre : List Int) : Prop := ∀ t : Int, varHead (n + t * 128 ^ i) i = pre

theorem gath_step {n : Int} {i : Nat} {pre : List Int} (h : Gath n i pre) (h0 : 0 ≤ n) (h1 : n < 128 ^ i) (x : Int) (hx0 : 128 ≤ x) (hx1 : x ≤ 255) : Gath (n + (x - 128) * 128 ^ i) (i + 1) (pre ++ [x]) := by
  intro t
  have e : n + (x - 128) * 128 ^ i + t * 128 ^ (i + 1) = n + (x - 128 + t * 128) * 128 ^ i := by
    rw [Int.pow_succ, Int.add_mul, Int.mul_assoc t 128, Int.mul_comm 128 (128 ^ i), Int.add_assoc]
  rw [e, varHead_succ, h, add_div128 _ _ _ h0 h1]
  congr 2
  omega

theorem varFrom_one (most : Int) : ∀ (fuel i : Nat) (n : Int) (l pre : List Int), fuel + i = 10 → 0 ≤ n → n < 128 ^ i → Gath n i pre → Octs l → most ≤ 18446744073709551615 → pre.length = i →
    (varFrom most fuel i n l).f = 0 → varB (varFrom most fuel i n l).n = (pre ++ l).take (varFrom most fuel i n l).to := by
  intro fuel
  induction fuel with
  | zero => intro i n l pre _ _ _ _ _ _ _ hf; simp [varFrom] at hf
  | succ fuel ih =>
    intro i n l pre hfi hn0 hn1 hg ho hm hp hf
    match l with
    | [] => simp [varFrom] at hf
    | x :: r =>
      have hx := ho x (by simp)
      unfold varFrom at hf ⊢
      split at hf
      · simp at hf
      · rename_i h9
        rw [if_neg h9]
        split at hf
        · rename_i h128
          rw [if_pos h128]
          have := ih (i + 1) (n + (x - 128) * 128 ^ i) r (pre ++ [x]) (by omega) (var_ge i n _ hn0 (by omega)) (var_lt i n _ hn1 (by omega)) (gath_step hg hn0 hn1 x h128 hx.2) (fun u hu => ho u (by simp [hu])) hm (by simp [hp]) hf
          rw [this, List.append_assoc]
          rfl
        · rename_i h128
          rw [if_neg h128]
          split at hf
          · simp at hf
          · rename_i hz
            rw [if_neg hz]
            split at hf
            · simp at hf
            · rename_i hmx
              rw [if_neg hmx]
              dsimp only
              have hN0 := var_ge i n x hn0 hx.1
              have hN1 := var_lt i n x hn1 (by omega)
              have hlast : lastOf (n + x * 128 ^ i) = i := by
                refine lastOf_is _ i hN0 (by omega) hN1 fun hi => ?_
                have hx1 : 1 ≤ x := by omega
                have hpp := pow_pos128 i
                have := Int.mul_le_mul_of_nonneg_right hx1 (Int.le_of_lt hpp)
                omega
              unfold varB
              rw [hlast, hg x, add_div128 _ _ _ hn0 hn1, List.take_append, hp]
              rw [show i + 1 - i = 1 by omega, List.take_of_length_le (by omega)]
              rfl
/-- What is read as a number in its shortest form is written so. -/
theorem varL_one (ys : List Int) (most : Int) (ho : Octs ys) (hm : most ≤ 18446744073709551615) (hf : (varL ys most).f = 0) : varB (varL ys most).n = ys.take (varL ys most).to :=
  varFrom_one most 10 0 0 ys [] rfl (Int.le_refl _) (by decide) (fun t => by simp [varHead]) ho hm rfl hf

end Go.Proofs.YtddhhjgegkkjbaaGreatDoor

namespace Go.Proofs.YtddhhjgegkkjbaaGreatDoor
open Go.RowKit

theorem takeL_ok (xs : List Int) (pl : Nat) (kind size most : Int) : takeL xs pl 0 kind size most =
    if (lookL (xs.drop pl) kind size most).f ≠ 0 then ⟨0, [], pl, (lookL (xs.drop pl) kind size most).f⟩
    else ⟨(lookL (xs.drop pl) kind size most).n, ((xs.drop pl).take (lookL (xs.drop pl) kind size most).to).drop (lookL (xs.drop pl) kind size most).frm, pl + (lookL (xs.drop pl) kind size most).to, 0⟩ := if_neg (by decide)


/-- What groups of seven bits, each with its high bit, come to from place i on. -/
def gather : List Int → Nat → Int
  | [], _ => 0
  | x :: r, i => (x - 128) * 128 ^ i + gather r (i + 1)
theorem gather_snoc : ∀ (l : List Int) (i : Nat) (x : Int), gather (l ++ [x]) i = gather l i + (x - 128) * 128 ^ (i + l.length) := by
  intro l
  induction l with
  | nil => intro i x; simp [gather]
  | cons y l ih =>
    intro i x
    rw [List.cons_append, gather, gather, ih, List.length_cons, show i + 1 + l.length = i + (l.length + 1) by omega, Int.add_assoc]
theorem emod_pow (n : Int) (k : Nat) : n % 128 ^ k + n / 128 ^ k % 128 * 128 ^ k = n % 128 ^ (k + 1) := by
  have hp := pow_pos128 k
  have h1 := Int.emod_add_mul_ediv n (128 ^ k)
  have h2 := Int.emod_add_mul_ediv (n / 128 ^ k) 128
  have h3 := Int.emod_add_mul_ediv n (128 ^ (k + 1))
  have h4 := div_succ n k
  rw [h4] at h2
  have h5 : n / (128 ^ k * 128) = n / 128 ^ (k + 1) := by rw [Int.pow_succ]
  rw [Int.pow_succ] at h3
  rw [h5] at h3
  rw [Int.pow_succ 128 k] at *
  generalize n / (128 ^ k * 128) = q at *
  have e1 : n = n % 128 ^ k + 128 ^ k * (n / 128 ^ k % 128 + 128 * q) := by rw [h2]; omega
  have e2 : 128 ^ k * (n / 128 ^ k % 128 + 128 * q) = n / 128 ^ k % 128 * 128 ^ k + 128 ^ k * 128 * q := by rw [Int.mul_add, Int.mul_comm (128 ^ k) (n / 128 ^ k % 128), Int.mul_assoc]
  rw [e2] at e1
  omega
theorem gather_head (n : Int) (k : Nat) : gather (varHead n k) 0 = n % 128 ^ k := by
  induction k with
  | zero => simp [varHead, gather]
  | succ k ih => rw [varHead_succ, gather_snoc, ih, varHead_len, Nat.zero_add, show n / 128 ^ k % 128 + 128 - 128 = n / 128 ^ k % 128 by omega]; exact emod_pow n k
theorem vf_head (most : Int) : ∀ (l : List Int) (i : Nat) (n0 : Int) (tl : List Int), (∀ x, x ∈ l → 128 ≤ x) → i + l.length ≤ 9 →
    varFrom most (10 - i) i n0 (l ++ tl) = varFrom most (10 - (i + l.length)) (i + l.length) (n0 + gather l i) tl := by
  intro l
  induction l with
  | nil => intro i n0 tl _ _; simp [gather]
  | cons x l ih =>
    intro i n0 tl hx hi
    simp only [List.length_cons] at hi
    have h1 := hx x (by simp)
    rw [List.cons_append, show 10 - i = (9 - i) + 1 by omega]
    conv => lhs; unfold varFrom
    rw [if_neg (by omega), if_pos h1]
    have := ih (i + 1) (n0 + (x - 128) * 128 ^ i) tl (fun y hy => hx y (by simp [hy])) (by omega)
    rw [show 10 - (i + 1) = 9 - i by omega] at this
    rw [this, List.length_cons, gather, show i + 1 + l.length = i + (l.length + 1) by omega, Int.add_assoc]
theorem head_ge (n : Int) (k : Nat) : ∀ x, x ∈ varHead n k → 128 ≤ x := by
  intro x hx
  simp only [varHead, List.mem_map] at hx
  obtain ⟨i, _, rfl⟩ := hx
  omega
/-- A number that was written is read, under every bound that lets it be. -/
theorem varL_back (n most : Int) (h0 : 0 ≤ n) (h1 : n ≤ 18446744073709551615) (hm : n ≤ most) (tl : List Int) : varL (varB n ++ tl) most = ⟨n, (varB n).length, (varB n).length, 0⟩ := by
  obtain ⟨g1, g2, g3⟩ := lastOf_spec n h0 h1
  have hlen : (varB n).length = lastOf n + 1 := by simp [varB, varHead_len]
  have hsm := last_small n h0 h1
  have h9 : ¬ (lastOf n = 9 ∧ 1 < n / 128 ^ lastOf n) := by
    rintro ⟨e, h⟩
    rw [e] at h
    have e9 : (128 : Int) ^ 9 = 9223372036854775808 := by decide
    rw [e9] at h
    omega
  have hz : ¬ (n / 128 ^ lastOf n = 0 ∧ 0 < lastOf n) := by
    rintro ⟨e, h⟩
    have := g2 h
    have h3 : 1 ≤ n / 128 ^ lastOf n := (Int.le_ediv_iff_mul_le (pow_pos128 _)).2 (by omega)
    omega
  have hsum : n % 128 ^ lastOf n + n / 128 ^ lastOf n * 128 ^ lastOf n = n := by
    have := Int.emod_add_mul_ediv n (128 ^ lastOf n)
    rw [Int.mul_comm] at this
    exact this
  unfold varL
  have := vf_head most (varHead n (lastOf n)) 0 0 ([n / 128 ^ lastOf n] ++ tl) (head_ge n _) (by rw [varHead_len]; omega)
  rw [show varB n ++ tl = varHead n (lastOf n) ++ ([n / 128 ^ lastOf n] ++ tl) by unfold varB; rw [List.append_assoc]]
  rw [show 10 - 0 = 10 by rfl] at this
  rw [this, gather_head n, varHead_len, Nat.zero_add, Int.zero_add, hlen, show 10 - lastOf n = (9 - lastOf n) + 1 by omega]
  simp only [List.cons_append, List.nil_append]
  unfold varFrom
  rw [if_neg h9, if_neg (by omega), if_neg hz, hsum, if_neg (by omega)]
theorem be_fixedB : ∀ (s : Nat) (n : Int), 0 ≤ n → n < 256 ^ s → be (fixedB n s) = n := by
  intro s
  induction s with
  | zero => intro n h0 h1; simp at h1; have : n = 0 := by omega
            subst this; rfl
  | succ s ih =>
    intro n h0 h1
    rw [fixedB_snoc, be_snoc, ih (n / 256) (by omega) (by rw [Int.pow_succ] at h1; omega)]
    omega

theorem back_fixed (xs : List Int) (pl size : Nat) (n : Int) (tl : List Int) (h0 : 0 ≤ n) (h1 : n < 256 ^ size) (hd : xs.drop pl = fixedB n size ++ tl) : takeL xs pl 0 0 size 0 = ⟨n, [], pl + size, 0⟩ := by
  rw [takeL_ok]
  have e : lookL (xs.drop pl) 0 size 0 = ⟨n, size, size, 0⟩ := by
    unfold lookL
    rw [if_pos rfl, Int.toNat_natCast, hd]
    unfold fixedL
    rw [if_neg (by simp [fixedB_len]), List.take_left' (fixedB_len n size), be_fixedB size n h0 h1]
  rw [e, if_neg (by simp)]
  simp
theorem back_var' (xs : List Int) (pl : Nat) (n most : Int) (tl : List Int) (h0 : 0 ≤ n) (h1 : n ≤ 18446744073709551615) (hm : n ≤ most) (hd : xs.drop pl = varB n ++ tl) : takeL xs pl 0 1 0 most = ⟨n, [], pl + (varB n).length, 0⟩ := by
  rw [takeL_ok]
  have e : lookL (xs.drop pl) 1 0 most = ⟨n, (varB n).length, (varB n).length, 0⟩ := by
    show varL (xs.drop pl) most = _
    rw [hd]; exact varL_back n most h0 h1 hm tl
  rw [e, if_neg (by simp)]
  simp
theorem back_bytes' (xs : List Int) (pl : Nat) (b tl : List Int) (most : Int) (h1 : b.length ≤ 140737488351232) (hm : (b.length : Int) ≤ most) (hd : xs.drop pl = varB b.length ++ b ++ tl) : takeL xs pl 0 2 0 most = ⟨b.length, b, pl + (varB b.length ++ b).length, 0⟩ := by
  rw [takeL_ok]
  have ev := varL_back (b.length : Int) most (by omega) (by omega) hm (b ++ tl)
  have e : lookL (xs.drop pl) 2 0 most = ⟨b.length, (varB b.length).length, (varB b.length).length + b.length, 0⟩ := by
    show bytesL (xs.drop pl) most = _
    unfold bytesL
    rw [hd, List.append_assoc, ev]
    dsimp only
    rw [if_neg (by simp), if_neg (by simp; omega)]
    simp
  rw [e, if_neg (by simp), hd, List.append_assoc]
  dsimp only
  congr 1
  · rw [List.take_append, List.drop_append]; simp
  · simp
theorem back_raw (xs : List Int) (pl : Nat) (b tl : List Int) (hd : xs.drop pl = b ++ tl) : takeL xs pl 0 3 b.length 0 = ⟨0, b, pl + b.length, 0⟩ := by
  rw [takeL_ok]
  have e : lookL (xs.drop pl) 3 b.length 0 = ⟨0, 0, b.length, 0⟩ := by
    show rawL (xs.drop pl) b.length = _
    unfold rawL
    rw [hd, if_neg (by omega), if_neg (by simp; omega), Int.toNat_natCast]
  rw [e, if_neg (by simp), hd]
  simp

end Go.Proofs.YtddhhjgegkkjbaaGreatDoor
