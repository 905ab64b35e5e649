/-
  A text turned into bytes.
  COPY of a list of structs of k cells into memory of its own.
  WALK: satchelref0.Copy, for every slice of bytes.
  PLAIN: what is written is read, item by item, under any bound that lets it be.
-/
import Derived.Test.YtmjakhmkddgffaaGreatDoorSgP
import Derived.Laws.IdiomStrings
import Derived.Test.YtmjakhmkddgffaaGreatDoorQuiet
import Derived.Laws.CopyRow
import Derived.Laws.MakeOwn
import Derived.Lib.SlBuf
import Derived.Test.YtmjakhmkddgffaaGreatDoorLookVar
import Derived.Test.YtmjakhmkddgffaaGreatDoorPlainV
import Derived.Test.YtmjakhmkddgffaaGreatDoorTake
namespace Go.Proofs.YtmjakhmkddgffaaGreatDoor
open Go.RowKit

/-- A text turned into bytes. -/
theorem conv_txt (w : World) (xs : List Int) (ho : Octs xs) : ∃ cap w1, (convert 9 26 (.string (strOfNums xs))).run Tryz.prog w = .ok (.slice (some ⟨w.heap.size, 0, none⟩) xs.length cap) w1 ∧ BytesAt w1 (.slice (some ⟨w.heap.size, 0, none⟩) xs.length cap) xs ∧ Kept [] w w1 ∧ w.heap.size < w1.heap.size := by
  have h := run_bytes_of_string (P := Tryz.prog) w 9 26 5 (strOfNums xs) Tryz.underlying9 Tryz.underlying26 Tryz.underlying5
  rw [strOfNums_size] at h
  refine ⟨_, _, h, ⟨_, _, rfl, ?_, fun e => (by cases e), fun _ => ⟨w.heap.size, 0, rfl, fun i u hu => ?_⟩⟩, (Kept.refl [] w).drew.alloc _, by rw [World.size_alloc]; exact Nat.lt_succ_self _⟩
  · exact grownCap_ge w _ _ _
  · have hi : i < xs.length := (List.getElem?_eq_some_iff.1 hu).1
    have hr := ho u (List.mem_of_getElem? hu)
    refine (World.cell?_alloc_mark w.drew _ _ _ _).trans ?_
    rw [Nat.zero_add]
    unfold bytesRow
    rw [Array.getElem?_append_left (by rw [Array.size_map]; show i < (strOfNums xs).size; rw [strOfNums_size]; exact hi), Array.getElem?_map, ← Array.getElem?_toList, strOfNums_data, List.getElem?_map, hu]
    simp
    omega
end Go.Proofs.YtmjakhmkddgffaaGreatDoor

namespace Go.Proofs.YtmjakhmkddgffaaGreatDoor
open Go.RowKit

theorem run_copy_k {P : Program} (w : World) (dT sT ty elem : TypeId) (k : Nat) (g dLen dCap : Nat) (a : Addr) (sLen sCap : Nat) (cur : Array Value) (t : TypeId) (cs : List Value)
    (hu : P.underlying dT = some (.slice elem)) (hs : (P.info? elem).map (·.size) = some k)
    (hg : w.heap[g]? = some (.cells cur t (0, 0))) (hn : cs.length = Nat.min sLen dLen * k)
    (hsrc : ∀ j v, cs[j]? = some v → w.cell? (a.add j) = some v) (hfit : cs.length = cur.size) (h1 : ∀ v ∈ cs, v.oneCell' = true) :
    (Builtin.copy_ #[dT, sT] ty #[.slice (some ⟨g, 0, none⟩) dLen dCap, .slice (some a) sLen sCap]).run P w =
      .ok (goInt (Nat.min sLen dLen)) (w.setRow g cs.toArray) := by
  have hl := run_loadCells_list (P := P) w a cs hsrc
  have hst := run_storeCells_at P g 0 t cs 0 cur w hg (by omega) h1
  have e : (cur.toList.take (0 + 0) ++ cs ++ cur.toList.drop (0 + 0 + cs.length)).toArray = cs.toArray := by
    rw [List.drop_eq_nil_of_le (by rw [Array.length_toList]; omega)]
    simp
  rw [e] at hst
  cases hq : P.info? elem with
  | none => simp [hq] at hs
  | some i =>
    have hi : i.size = k := by simpa [hq] using hs
    simp [Builtin.copy_, run_underlying hu, Builtin.lenOf, Builtin.firstCells, sizeOf, typeInfo, hq, hi, ← hn, hl, hst]

/-- Rows of k cells that lie in a row from an address on, as one list of cells. -/
theorem rows_src {w : World} {b off k : Nat} (hk : 0 < k) {rows : List (List Value)} (hr : ∀ r, r ∈ rows → r.length = k) (h : ∀ (i : Nat) (cs : List Value), rows[i]? = some cs → w.rangeAt b (off + i * k) cs) :
    ∀ j v, rows.flatten[j]? = some v → w.cell? ((⟨b, off, none⟩ : Addr).add j) = some v := fun j v hj => by
  rw [flat_bind k hk rows hr j] at hj
  obtain ⟨r, hri, hrj⟩ := Option.bind_eq_some_iff.1 hj
  have hc := h _ r hri _ v hrj
  rw [Addr.add_mid]
  rw [show off + j / k * k + j % k = off + j by have := Nat.div_add_mod j k; rw [Nat.mul_comm] at this; omega] at hc
  exact hc
end Go.Proofs.YtmjakhmkddgffaaGreatDoor

namespace Go.Proofs.YtmjakhmkddgffaaGreatDoor
open Go.RowKit

set_option maxHeartbeats 400000 in
theorem Copy_any (v : Value) (ys : List Int) (w : World) (h : BytesAt w v ys) (hm : ys.length ≤ 140737488355328) :
    Calls Tryz.prog 35 #[v] w fun e w' => e = .returned (.slice (some ⟨w.heap.size, 0, none⟩) ys.length ys.length) ∧
      w'.heap[w.heap.size]? = some (.cells (ys.map (Value.int .u8)).toArray 5 (0, 0)) ∧ Kept [] w w' := by
  obtain ⟨ao, cap, rfl, hc, hnil, hcell⟩ := h
  have hmk := run_make_row' (P := Tryz.prog) 26 5 (.int .u8 0) 1 Tryz.underlying26 Tryz.info_u8 rfl .i64 .i64 ys.length (by omega) (by omega)
  obtain ⟨cs, hcs⟩ : ∃ cs, cs = ys.map (Value.int .u8) := ⟨_, rfl⟩
  have HC : Hid (cs = ys.map (Value.int .u8)) := hcs
  clear hcs
  go_enter Tryz.func35, Tryz.ntmps35
  go_wp2_with (refine wpList_copy_splice rfl (.tmp 7) (.tmp 8) 26 26 rfl 5 Tryz.underlying26 Tryz.size_u8 _ _ _ _ _ _ rfl rfl w.heap.size 0 (List.replicate ys.length (.int .u8 0)) 5 ?cg cs ?cn ?cp ?cf ?co w.heap.size w ?cb (Nat.le_refl _) ?_)
  case cg => rw [← toList_madeCells_one]; exact heap_alloc_new w _
  case cn => rw [HC.out]; simp
  case cp =>
    intro h0
    rw [HC.out] at h0
    obtain ⟨b, off, rfl, hh⟩ := hcell (by rintro rfl; simp at h0)
    refine ⟨_, rfl, fun j u hu => ?_⟩
    rw [HC.out] at hu
    simp only [List.getElem?_map, Option.map_eq_some_iff] at hu
    obtain ⟨z, hz, rfl⟩ := hu
    rw [Addr.add_mid, World.cell?_alloc_lt]
    · exact hh j z hz
    · exact World.block_lt_of_cell? w _ (hh j z hz)
  case cf => rw [HC.out]; simp
  case co => rw [HC.out]; exact map_oneCell ys
  case cb => exact (Below.refl _ _).alloc (Nat.le_refl _) _
  intro w2 hg hb
  go_wp2
  go_ret
  refine ⟨rfl, ?_, kept_of_below hb⟩
  rw [hg.out, splice_all _ _ _ (by rw [HC.out]; simp), HC.out]
end Go.Proofs.YtmjakhmkddgffaaGreatDoor

namespace Go.Proofs.YtmjakhmkddgffaaGreatDoor
open Go.RowKit

theorem takeL_ok (xs : List Int) (pl : Nat) (kind size most : Int) : takeL xs pl 0 kind size most =
    if (lookL (xs.drop pl) kind size most).f ≠ 0 then ⟨0, [], pl, (lookL (xs.drop pl) kind size most).f⟩
    else ⟨(lookL (xs.drop pl) kind size most).n, ((xs.drop pl).take (lookL (xs.drop pl) kind size most).to).drop (lookL (xs.drop pl) kind size most).frm, pl + (lookL (xs.drop pl) kind size most).to, 0⟩ := if_neg (by decide)


/-- What groups of seven bits, each with its high bit, come to from place i on. -/
def gather : List Int → Nat → Int
  | [], _ => 0
  | x :: r, i => (x - 128) * 128 ^ i + gather r (i + 1)
theorem gather_snoc : ∀ (l : List Int) (i : Nat) (x : Int), gather (l ++ [x]) i = gather l i + (x - 128) * 128 ^ (i + l.length) := by
  intro l
  induction l with
  | nil => intro i x; simp [gather]
  | cons y l ih =>
    intro i x
    rw [List.cons_append, gather, gather, ih, List.length_cons, show i + 1 + l.length = i + (l.length + 1) by omega, Int.add_assoc]
theorem emod_pow (n : Int) (k : Nat) : n % 128 ^ k + n / 128 ^ k % 128 * 128 ^ k = n % 128 ^ (k + 1) := by
  have hp := pow_pos128 k
  have h1 := Int.emod_add_mul_ediv n (128 ^ k)
  have h2 := Int.emod_add_mul_ediv (n / 128 ^ k) 128
  have h3 := Int.emod_add_mul_ediv n (128 ^ (k + 1))
  have h4 := div_succ n k
  rw [h4] at h2
  have h5 : n / (128 ^ k * 128) = n / 128 ^ (k + 1) := by rw [Int.pow_succ]
  rw [Int.pow_succ] at h3
  rw [h5] at h3
  rw [Int.pow_succ 128 k] at *
  generalize n / (128 ^ k * 128) = q at *
  have e1 : n = n % 128 ^ k + 128 ^ k * (n / 128 ^ k % 128 + 128 * q) := by rw [h2]; omega
  have e2 : 128 ^ k * (n / 128 ^ k % 128 + 128 * q) = n / 128 ^ k % 128 * 128 ^ k + 128 ^ k * 128 * q := by rw [Int.mul_add, Int.mul_comm (128 ^ k) (n / 128 ^ k % 128), Int.mul_assoc]
  rw [e2] at e1
  omega
theorem gather_head (n : Int) (k : Nat) : gather (varHead n k) 0 = n % 128 ^ k := by
  induction k with
  | zero => simp [varHead, gather]
  | succ k ih => rw [varHead_succ, gather_snoc, ih, varHead_len, Nat.zero_add, show n / 128 ^ k % 128 + 128 - 128 = n / 128 ^ k % 128 by omega]; exact emod_pow n k
theorem vf_head (most : Int) : ∀ (l : List Int) (i : Nat) (n0 : Int) (tl : List Int), (∀ x, x ∈ l → 128 ≤ x) → i + l.length ≤ 9 →
    varFrom most (10 - i) i n0 (l ++ tl) = varFrom most (10 - (i + l.length)) (i + l.length) (n0 + gather l i) tl := by
  intro l
  induction l with
  | nil => intro i n0 tl _ _; simp [gather]
  | cons x l ih =>
    intro i n0 tl hx hi
    simp only [List.length_cons] at hi
    have h1 := hx x (by simp)
    rw [List.cons_append, show 10 - i = (9 - i) + 1 by omega]
    conv => lhs; unfold varFrom
    rw [if_neg (by omega), if_pos h1]
    have := ih (i + 1) (n0 + (x - 128) * 128 ^ i) tl (fun y hy => hx y (by simp [hy])) (by omega)
    rw [show 10 - (i + 1) = 9 - i by omega] at this
    rw [this, List.length_cons, gather, show i + 1 + l.length = i + (l.length + 1) by omega, Int.add_assoc]
theorem head_ge (n : Int) (k : Nat) : ∀ x, x ∈ varHead n k → 128 ≤ x := by
  intro x hx
  simp only [varHead, List.mem_map] at hx
  obtain ⟨i, _, rfl⟩ := hx
  omega
/-- A number that was written is read, under every bound that lets it be. -/
theorem varL_back (n most : Int) (h0 : 0 ≤ n) (h1 : n ≤ 18446744073709551615) (hm : n ≤ most) (tl : List Int) : varL (varB n ++ tl) most = ⟨n, (varB n).length, (varB n).length, 0⟩ := by
  obtain ⟨g1, g2, g3⟩ := lastOf_spec n h0 h1
  have hlen : (varB n).length = lastOf n + 1 := by simp [varB, varHead_len]
  have hsm := last_small n h0 h1
  have h9 : ¬ (lastOf n = 9 ∧ 1 < n / 128 ^ lastOf n) := by
    rintro ⟨e, h⟩
    rw [e] at h
    have e9 : (128 : Int) ^ 9 = 9223372036854775808 := by decide
    rw [e9] at h
    omega
  have hz : ¬ (n / 128 ^ lastOf n = 0 ∧ 0 < lastOf n) := by
    rintro ⟨e, h⟩
    have := g2 h
    have h3 : 1 ≤ n / 128 ^ lastOf n := (Int.le_ediv_iff_mul_le (pow_pos128 _)).2 (by omega)
    omega
  have hsum : n % 128 ^ lastOf n + n / 128 ^ lastOf n * 128 ^ lastOf n = n := by
    have := Int.emod_add_mul_ediv n (128 ^ lastOf n)
    rw [Int.mul_comm] at this
    exact this
  unfold varL
  have := vf_head most (varHead n (lastOf n)) 0 0 ([n / 128 ^ lastOf n] ++ tl) (head_ge n _) (by rw [varHead_len]; omega)
  rw [show varB n ++ tl = varHead n (lastOf n) ++ ([n / 128 ^ lastOf n] ++ tl) by unfold varB; rw [List.append_assoc]]
  rw [show 10 - 0 = 10 by rfl] at this
  rw [this, gather_head n, varHead_len, Nat.zero_add, Int.zero_add, hlen, show 10 - lastOf n = (9 - lastOf n) + 1 by omega]
  simp only [List.cons_append, List.nil_append]
  unfold varFrom
  rw [if_neg h9, if_neg (by omega), if_neg hz, hsum, if_neg (by omega)]
/-- Without its last byte it is too short. -/
theorem varL_cut (n most : Int) (h0 : 0 ≤ n) (h1 : n ≤ 18446744073709551615) : varL ((varB n).take ((varB n).length - 1)) most = ⟨0, 0, 0, 1⟩ := by
  obtain ⟨_, _, g3⟩ := lastOf_spec n h0 h1
  have e : (varB n).take ((varB n).length - 1) = varHead n (lastOf n) ++ [] := by
    simp [varB, varHead_len]
  rw [e]
  have := vf_head most (varHead n (lastOf n)) 0 0 [] (head_ge n _) (by rw [varHead_len]; omega)
  unfold varL
  rw [show 10 - 0 = 10 by rfl] at this
  rw [this, varHead_len, show 10 - (0 + lastOf n) = (9 - lastOf n) + 1 by omega]
  rfl
theorem be_fixedB : ∀ (s : Nat) (n : Int), 0 ≤ n → n < 256 ^ s → be (fixedB n s) = n := by
  intro s
  induction s with
  | zero => intro n h0 h1; simp at h1; have : n = 0 := by omega
            subst this; rfl
  | succ s ih =>
    intro n h0 h1
    rw [fixedB_snoc, be_snoc, ih (n / 256) (by omega) (by rw [Int.pow_succ] at h1; omega)]
    omega

theorem back_fixed (xs : List Int) (pl size : Nat) (n : Int) (tl : List Int) (h0 : 0 ≤ n) (h1 : n < 256 ^ size) (hd : xs.drop pl = fixedB n size ++ tl) : takeL xs pl 0 0 size 0 = ⟨n, [], pl + size, 0⟩ := by
  rw [takeL_ok]
  have e : lookL (xs.drop pl) 0 size 0 = ⟨n, size, size, 0⟩ := by
    unfold lookL
    rw [if_pos rfl, Int.toNat_natCast, hd]
    unfold fixedL
    rw [if_neg (by simp [fixedB_len]), List.take_left' (fixedB_len n size), be_fixedB size n h0 h1]
  rw [e, if_neg (by simp)]
  simp
theorem back_var' (xs : List Int) (pl : Nat) (n most : Int) (tl : List Int) (h0 : 0 ≤ n) (h1 : n ≤ 18446744073709551615) (hm : n ≤ most) (hd : xs.drop pl = varB n ++ tl) : takeL xs pl 0 1 0 most = ⟨n, [], pl + (varB n).length, 0⟩ := by
  rw [takeL_ok]
  have e : lookL (xs.drop pl) 1 0 most = ⟨n, (varB n).length, (varB n).length, 0⟩ := by
    show varL (xs.drop pl) most = _
    rw [hd]; exact varL_back n most h0 h1 hm tl
  rw [e, if_neg (by simp)]
  simp
theorem back_bytes' (xs : List Int) (pl : Nat) (b tl : List Int) (most : Int) (h1 : b.length ≤ 140737488351232) (hm : (b.length : Int) ≤ most) (hd : xs.drop pl = varB b.length ++ b ++ tl) : takeL xs pl 0 2 0 most = ⟨b.length, b, pl + (varB b.length ++ b).length, 0⟩ := by
  rw [takeL_ok]
  have ev := varL_back (b.length : Int) most (by omega) (by omega) hm (b ++ tl)
  have e : lookL (xs.drop pl) 2 0 most = ⟨b.length, (varB b.length).length, (varB b.length).length + b.length, 0⟩ := by
    show bytesL (xs.drop pl) most = _
    unfold bytesL
    rw [hd, List.append_assoc, ev]
    dsimp only
    rw [if_neg (by simp), if_neg (by simp; omega)]
    simp
  rw [e, if_neg (by simp), hd, List.append_assoc]
  dsimp only
  congr 1
  · rw [List.take_append, List.drop_append]; simp
  · simp
theorem back_raw (xs : List Int) (pl : Nat) (b tl : List Int) (hd : xs.drop pl = b ++ tl) : takeL xs pl 0 3 b.length 0 = ⟨0, b, pl + b.length, 0⟩ := by
  rw [takeL_ok]
  have e : lookL (xs.drop pl) 3 b.length 0 = ⟨0, 0, b.length, 0⟩ := by
    show rawL (xs.drop pl) b.length = _
    unfold rawL
    rw [hd, if_neg (by omega), if_neg (by simp; omega), Int.toNat_natCast]
  rw [e, if_neg (by simp), hd]
  simp

end Go.Proofs.YtmjakhmkddgffaaGreatDoor
