/-
  PLAIN: what is written is read, item by item, under any bound that lets it be.
  PLAIN: what a tree, a tag are written as is read as just them.
  PLAIN: what a tag, a commit are written as is read as just them.
-/
import Derived.Test.YtmjakhmkddgffaaGreatDoorPlainV
import Derived.Test.YtmjakhmkddgffaaGreatDoorTake
import Derived.Test.YtmjakhmkddgffaaGreatDoorRead0
namespace Go.Proofs.YtmjakhmkddgffaaGreatDoor
open Go.RowKit

theorem takeL_ok (xs : List Int) (pl : Nat) (kind size most : Int) : takeL xs pl 0 kind size most =
    if (lookL (xs.drop pl) kind size most).f ≠ 0 then ⟨0, [], pl, (lookL (xs.drop pl) kind size most).f⟩
    else ⟨(lookL (xs.drop pl) kind size most).n, ((xs.drop pl).take (lookL (xs.drop pl) kind size most).to).drop (lookL (xs.drop pl) kind size most).frm, pl + (lookL (xs.drop pl) kind size most).to, 0⟩ := if_neg (by decide)


/-- What groups of seven bits, each with its high bit, come to from place i on. -/
def gather : List Int → Nat → Int
  | [], _ => 0
  | x :: r, i => (x - 128) * 128 ^ i + gather r (i + 1)
theorem gather_snoc : ∀ (l : List Int) (i : Nat) (x : Int), gather (l ++ [x]) i = gather l i + (x - 128) * 128 ^ (i + l.length) := by
  intro l
  induction l with
  | nil => intro i x; simp [gather]
  | cons y l ih =>
    intro i x
    rw [List.cons_append, gather, gather, ih, List.length_cons, show i + 1 + l.length = i + (l.length + 1) by omega, Int.add_assoc]
theorem emod_pow (n : Int) (k : Nat) : n % 128 ^ k + n / 128 ^ k % 128 * 128 ^ k = n % 128 ^ (k + 1) := by
  have hp := pow_pos128 k
  have h1 := Int.emod_add_mul_ediv n (128 ^ k)
  have h2 := Int.emod_add_mul_ediv (n / 128 ^ k) 128
  have h3 := Int.emod_add_mul_ediv n (128 ^ (k + 1))
  have h4 := div_succ n k
  rw [h4] at h2
  have h5 : n / (128 ^ k * 128) = n / 128 ^ (k + 1) := by rw [Int.pow_succ]
  rw [Int.pow_succ] at h3
  rw [h5] at h3
  rw [Int.pow_succ 128 k] at *
  generalize n / (128 ^ k * 128) = q at *
  have e1 : n = n % 128 ^ k + 128 ^ k * (n / 128 ^ k % 128 + 128 * q) := by rw [h2]; omega
  have e2 : 128 ^ k * (n / 128 ^ k % 128 + 128 * q) = n / 128 ^ k % 128 * 128 ^ k + 128 ^ k * 128 * q := by rw [Int.mul_add, Int.mul_comm (128 ^ k) (n / 128 ^ k % 128), Int.mul_assoc]
  rw [e2] at e1
  omega
theorem gather_head (n : Int) (k : Nat) : gather (varHead n k) 0 = n % 128 ^ k := by
  induction k with
  | zero => simp [varHead, gather]
  | succ k ih => rw [varHead_succ, gather_snoc, ih, varHead_len, Nat.zero_add, show n / 128 ^ k % 128 + 128 - 128 = n / 128 ^ k % 128 by omega]; exact emod_pow n k
theorem vf_head (most : Int) : ∀ (l : List Int) (i : Nat) (n0 : Int) (tl : List Int), (∀ x, x ∈ l → 128 ≤ x) → i + l.length ≤ 9 →
    varFrom most (10 - i) i n0 (l ++ tl) = varFrom most (10 - (i + l.length)) (i + l.length) (n0 + gather l i) tl := by
  intro l
  induction l with
  | nil => intro i n0 tl _ _; simp [gather]
  | cons x l ih =>
    intro i n0 tl hx hi
    simp only [List.length_cons] at hi
    have h1 := hx x (by simp)
    rw [List.cons_append, show 10 - i = (9 - i) + 1 by omega]
    conv => lhs; unfold varFrom
    rw [if_neg (by omega), if_pos h1]
    have := ih (i + 1) (n0 + (x - 128) * 128 ^ i) tl (fun y hy => hx y (by simp [hy])) (by omega)
    rw [show 10 - (i + 1) = 9 - i by omega] at this
    rw [this, List.length_cons, gather, show i + 1 + l.length = i + (l.length + 1) by omega, Int.add_assoc]
theorem head_ge (n : Int) (k : Nat) : ∀ x, x ∈ varHead n k → 128 ≤ x := by
  intro x hx
  simp only [varHead, List.mem_map] at hx
  obtain ⟨i, _, rfl⟩ := hx
  omega
/-- A number that was written is read, under every bound that lets it be. -/
theorem varL_back (n most : Int) (h0 : 0 ≤ n) (h1 : n ≤ 18446744073709551615) (hm : n ≤ most) (tl : List Int) : varL (varB n ++ tl) most = ⟨n, (varB n).length, (varB n).length, 0⟩ := by
  obtain ⟨g1, g2, g3⟩ := lastOf_spec n h0 h1
  have hlen : (varB n).length = lastOf n + 1 := by simp [varB, varHead_len]
  have hsm := last_small n h0 h1
  have h9 : ¬ (lastOf n = 9 ∧ 1 < n / 128 ^ lastOf n) := by
    rintro ⟨e, h⟩
    rw [e] at h
    have e9 : (128 : Int) ^ 9 = 9223372036854775808 := by decide
    rw [e9] at h
    omega
  have hz : ¬ (n / 128 ^ lastOf n = 0 ∧ 0 < lastOf n) := by
    rintro ⟨e, h⟩
    have := g2 h
    have h3 : 1 ≤ n / 128 ^ lastOf n := (Int.le_ediv_iff_mul_le (pow_pos128 _)).2 (by omega)
    omega
  have hsum : n % 128 ^ lastOf n + n / 128 ^ lastOf n * 128 ^ lastOf n = n := by
    have := Int.emod_add_mul_ediv n (128 ^ lastOf n)
    rw [Int.mul_comm] at this
    exact this
  unfold varL
  have := vf_head most (varHead n (lastOf n)) 0 0 ([n / 128 ^ lastOf n] ++ tl) (head_ge n _) (by rw [varHead_len]; omega)
  rw [show varB n ++ tl = varHead n (lastOf n) ++ ([n / 128 ^ lastOf n] ++ tl) by unfold varB; rw [List.append_assoc]]
  rw [show 10 - 0 = 10 by rfl] at this
  rw [this, gather_head n, varHead_len, Nat.zero_add, Int.zero_add, hlen, show 10 - lastOf n = (9 - lastOf n) + 1 by omega]
  simp only [List.cons_append, List.nil_append]
  unfold varFrom
  rw [if_neg h9, if_neg (by omega), if_neg hz, hsum, if_neg (by omega)]
/-- Without its last byte it is too short. -/
theorem varL_cut (n most : Int) (h0 : 0 ≤ n) (h1 : n ≤ 18446744073709551615) : varL ((varB n).take ((varB n).length - 1)) most = ⟨0, 0, 0, 1⟩ := by
  obtain ⟨_, _, g3⟩ := lastOf_spec n h0 h1
  have e : (varB n).take ((varB n).length - 1) = varHead n (lastOf n) ++ [] := by
    simp [varB, varHead_len]
  rw [e]
  have := vf_head most (varHead n (lastOf n)) 0 0 [] (head_ge n _) (by rw [varHead_len]; omega)
  unfold varL
  rw [show 10 - 0 = 10 by rfl] at this
  rw [this, varHead_len, show 10 - (0 + lastOf n) = (9 - lastOf n) + 1 by omega]
  rfl
theorem be_fixedB : ∀ (s : Nat) (n : Int), 0 ≤ n → n < 256 ^ s → be (fixedB n s) = n := by
  intro s
  induction s with
  | zero => intro n h0 h1; simp at h1; have : n = 0 := by omega
            subst this; rfl
  | succ s ih =>
    intro n h0 h1
    rw [fixedB_snoc, be_snoc, ih (n / 256) (by omega) (by rw [Int.pow_succ] at h1; omega)]
    omega

theorem back_fixed (xs : List Int) (pl size : Nat) (n : Int) (tl : List Int) (h0 : 0 ≤ n) (h1 : n < 256 ^ size) (hd : xs.drop pl = fixedB n size ++ tl) : takeL xs pl 0 0 size 0 = ⟨n, [], pl + size, 0⟩ := by
  rw [takeL_ok]
  have e : lookL (xs.drop pl) 0 size 0 = ⟨n, size, size, 0⟩ := by
    unfold lookL
    rw [if_pos rfl, Int.toNat_natCast, hd]
    unfold fixedL
    rw [if_neg (by simp [fixedB_len]), List.take_left' (fixedB_len n size), be_fixedB size n h0 h1]
  rw [e, if_neg (by simp)]
  simp
theorem back_var' (xs : List Int) (pl : Nat) (n most : Int) (tl : List Int) (h0 : 0 ≤ n) (h1 : n ≤ 18446744073709551615) (hm : n ≤ most) (hd : xs.drop pl = varB n ++ tl) : takeL xs pl 0 1 0 most = ⟨n, [], pl + (varB n).length, 0⟩ := by
  rw [takeL_ok]
  have e : lookL (xs.drop pl) 1 0 most = ⟨n, (varB n).length, (varB n).length, 0⟩ := by
    show varL (xs.drop pl) most = _
    rw [hd]; exact varL_back n most h0 h1 hm tl
  rw [e, if_neg (by simp)]
  simp
theorem back_bytes' (xs : List Int) (pl : Nat) (b tl : List Int) (most : Int) (h1 : b.length ≤ 140737488351232) (hm : (b.length : Int) ≤ most) (hd : xs.drop pl = varB b.length ++ b ++ tl) : takeL xs pl 0 2 0 most = ⟨b.length, b, pl + (varB b.length ++ b).length, 0⟩ := by
  rw [takeL_ok]
  have ev := varL_back (b.length : Int) most (by omega) (by omega) hm (b ++ tl)
  have e : lookL (xs.drop pl) 2 0 most = ⟨b.length, (varB b.length).length, (varB b.length).length + b.length, 0⟩ := by
    show bytesL (xs.drop pl) most = _
    unfold bytesL
    rw [hd, List.append_assoc, ev]
    dsimp only
    rw [if_neg (by simp), if_neg (by simp; omega)]
    simp
  rw [e, if_neg (by simp), hd, List.append_assoc]
  dsimp only
  congr 1
  · rw [List.take_append, List.drop_append]; simp
  · simp
theorem back_raw (xs : List Int) (pl : Nat) (b tl : List Int) (hd : xs.drop pl = b ++ tl) : takeL xs pl 0 3 b.length 0 = ⟨0, b, pl + b.length, 0⟩ := by
  rw [takeL_ok]
  have e : lookL (xs.drop pl) 3 b.length 0 = ⟨0, 0, b.length, 0⟩ := by
    show rawL (xs.drop pl) b.length = _
    unfold rawL
    rw [hd, if_neg (by omega), if_neg (by simp; omega), Int.toNat_natCast]
  rw [e, if_neg (by simp), hd]
  simp

end Go.Proofs.YtmjakhmkddgffaaGreatDoor

namespace Go.Proofs.YtmjakhmkddgffaaGreatDoor
open Go.RowKit

theorem drop_at {xs a b : List Int} {p : Nat} (h : xs.drop p = a ++ b) : xs.drop (p + a.length) = b := by
  rw [← List.drop_drop, h, List.drop_left]
theorem idOf_id {t : List Int} (h : t.length = 32) : idOf t = t := by
  unfold idOf
  rw [h, List.drop_eq_nil_of_le (by decide), List.append_nil]

/-- An entry that may be written. -/
structure EntL.Fit (e : EntL) : Prop where
  m0 : 0 ≤ e.mode
  m1 : e.mode ≤ 255
  name : e.name.length ≤ 255
  id : e.id.length = 32
theorem rdE_back (xs : List Int) (p : Nat) (e : EntL) (tl : List Int) (hf : e.Fit) (hd : xs.drop p = entB e ++ tl) : rdE xs p 0 = (e, p + (entB e).length, 0) := by
  have d0 : xs.drop p = fixedB e.mode 1 ++ (varB e.name.length ++ e.name ++ (e.id ++ tl)) := by rw [hd]; unfold entB; simp only [List.append_assoc]
  have t1 := back_fixed xs p 1 e.mode _ hf.m0 (by have := hf.m1; show e.mode < 256 ^ 1; omega) d0
  have d1 := drop_at d0
  rw [fixedB_len] at d1
  have t2 := back_bytes' xs (p + 1) e.name (e.id ++ tl) 255 (by have := hf.name; omega) (by have := hf.name; omega) d1
  have d2 := drop_at d1
  have t3 := back_raw xs _ e.id tl d2
  rw [hf.id] at t3
  have t1' : takeL xs p 0 0 1 0 = ⟨e.mode, [], p + 1, 0⟩ := t1
  have t3' : takeL xs (p + 1 + (varB e.name.length ++ e.name).length) 0 3 32 0 = ⟨0, e.id, p + 1 + (varB e.name.length ++ e.name).length + 32, 0⟩ := t3
  unfold rdE
  rw [t1']
  dsimp only
  rw [t2]
  dsimp only
  rw [t3']
  dsimp only
  rw [idOf_id hf.id]
  refine Prod.ext rfl (Prod.ext ?_ rfl)
  show p + 1 + (varB e.name.length ++ e.name).length + 32 = p + (entB e).length
  unfold entB
  simp only [List.length_append, fixedB_len, hf.id]
  omega
theorem rdEs_back (xs : List Int) (pl : Nat) (es : List EntL) (tl : List Int) (hf : ∀ e, e ∈ es → e.Fit) (hd : xs.drop pl = entsB es ++ tl) : ∀ k, k ≤ es.length → rdEs xs pl 0 k = (es.take k, pl + (entsB (es.take k)).length, 0) := by
  intro k
  induction k with
  | zero => intro _; simp [rdEs, entsB]
  | succ k ih =>
    intro hk
    have h := ih (by omega)
    obtain ⟨e, he⟩ : ∃ e, es[k]? = some e := ⟨_, List.getElem?_eq_getElem (by omega)⟩
    have hlt : k < es.length := by omega
    have hek : es[k] = e := (List.getElem?_eq_some_iff.1 he).2
    have hsp : entsB es = entsB (es.take k) ++ (entB e ++ entsB (es.drop (k + 1))) := by
      have e1 : es = es.take k ++ (e :: es.drop (k + 1)) := by rw [← hek, ← List.drop_eq_getElem_cons hlt, List.take_append_drop]
      unfold entsB
      conv => lhs; rw [e1]
      rw [List.flatMap_append, List.flatMap_cons]
    rw [hsp, List.append_assoc] at hd
    have hd2 := drop_at hd
    rw [List.append_assoc] at hd2
    have hr := rdE_back xs _ e _ (hf e (List.mem_of_getElem? he)) hd2
    unfold rdEs
    rw [h]
    dsimp only
    rw [hr, entsB_succ he, List.take_succ_eq_append_getElem hlt, hek, List.length_append, ← Nat.add_assoc]
/-- A tree's own encoding, read. -/
theorem tree_back (es : List EntL) (hn : es.length ≤ 1024) (hf : ∀ e, e ∈ es → e.Fit) : takeL (encT es) 0 0 0 1 0 = ⟨2, [], 1, 0⟩ ∧ takeL (encT es) 1 0 1 0 1024 = ⟨es.length, [], 1 + (varB es.length).length, 0⟩ ∧ rdEs (encT es) (1 + (varB es.length).length) 0 es.length = (es, (encT es).length, 0) := by
  have d0 : (encT es).drop 0 = fixedB 2 1 ++ (varB es.length ++ entsB es) := by rw [List.drop_zero]; unfold encT; rw [List.append_assoc]
  have t0 := back_fixed (encT es) 0 1 2 _ (by decide) (by decide) d0
  have d1 := drop_at d0
  rw [fixedB_len, Nat.zero_add] at d1
  have t1 := back_var' (encT es) 1 (es.length : Int) 1024 (entsB es) (by omega) (by omega) (by omega) d1
  have d2 := drop_at d1
  have t2 := rdEs_back (encT es) (1 + (varB es.length).length) es [] hf (by rw [d2, List.append_nil]) es.length (Nat.le_refl _)
  refine ⟨t0, t1, ?_⟩
  rw [t2, List.take_length]
  refine Prod.ext rfl (Prod.ext ?_ rfl)
  show 1 + (varB es.length).length + (entsB es).length = (encT es).length
  unfold encT
  simp only [List.length_append, fixedB_len]
end Go.Proofs.YtmjakhmkddgffaaGreatDoor

namespace Go.Proofs.YtmjakhmkddgffaaGreatDoor
open Go.RowKit

structure TagL.Fit (t : TagL) : Prop where
  target : t.target.length = 32
  k0 : 0 ≤ t.kind
  k1 : t.kind ≤ 255
  name : t.name.length ≤ 255
  who : t.who.length ≤ 255
  t0 : 0 ≤ t.time
  t1 : t.time ≤ 18446744073709551615
  text : t.text.length ≤ 4096
/-- A tag's own encoding, read. -/
theorem tag_back (t : TagL) (hf : t.Fit) : ∃ y1 y2 y3 y4 y5 y6 : Took, takeL (encG t) 0 0 0 1 0 = ⟨4, [], 1, 0⟩ ∧ y1 = takeL (encG t) 1 0 3 32 0 ∧ y2 = takeL (encG t) y1.pl y1.f 0 1 0 ∧ y3 = takeL (encG t) y2.pl y2.f 2 0 255 ∧ y4 = takeL (encG t) y3.pl y3.f 2 0 255 ∧
    y5 = takeL (encG t) y4.pl y4.f 0 8 0 ∧ y6 = takeL (encG t) y5.pl y5.f 2 0 4096 ∧ t = ⟨idOf y1.text, y2.n, y3.text, y4.text, y5.n, y6.text⟩ ∧ y6.f = 0 ∧ y6.pl = (encG t).length := by
  have d0 : (encG t).drop 0 = fixedB 4 1 ++ (t.target ++ (fixedB t.kind 1 ++ (varB t.name.length ++ t.name ++ (varB t.who.length ++ t.who ++ (fixedB t.time 8 ++ (varB t.text.length ++ t.text ++ [])))))) := by
    rw [List.drop_zero, List.append_nil]; unfold encG; simp only [List.append_assoc]
  have e0 := back_fixed (encG t) 0 1 4 _ (by decide) (by decide) d0
  have d1 := drop_at d0
  rw [fixedB_len, Nat.zero_add] at d1
  have e1 := back_raw (encG t) 1 t.target _ d1
  rw [hf.target] at e1
  have d2 := drop_at d1
  rw [hf.target] at d2
  have e2 := back_fixed (encG t) (1 + 32) 1 t.kind _ hf.k0 (by have := hf.k1; show t.kind < 256 ^ 1; omega) d2
  have d3 := drop_at d2
  rw [fixedB_len] at d3
  have e3 := back_bytes' (encG t) (1 + 32 + 1) t.name _ 255 (by have := hf.name; omega) (by have := hf.name; omega) d3
  have d4 := drop_at d3
  have e4 := back_bytes' (encG t) (1 + 32 + 1 + (varB t.name.length ++ t.name).length) t.who _ 255 (by have := hf.who; omega) (by have := hf.who; omega) d4
  have d5 := drop_at d4
  have e5 := back_fixed (encG t) (1 + 32 + 1 + (varB t.name.length ++ t.name).length + (varB t.who.length ++ t.who).length) 8 t.time _ hf.t0 (by have := hf.t1; show t.time < 256 ^ 8; omega) d5
  have d6 := drop_at d5
  rw [fixedB_len] at d6
  have e6 := back_bytes' (encG t) (1 + 32 + 1 + (varB t.name.length ++ t.name).length + (varB t.who.length ++ t.who).length + 8) t.text [] 4096 (by have := hf.text; omega) (by have := hf.text; omega) d6
  refine ⟨_, _, _, _, _, _, e0, e1.symm, e2.symm, e3.symm, e4.symm, e5.symm, e6.symm, ?_, rfl, ?_⟩
  · dsimp only
    rw [idOf_id hf.target]
  · dsimp only
    unfold encG
    simp only [List.length_append, fixedB_len, hf.target]
    omega

structure ComL.Fit (c : ComL) : Prop where
  tree : c.tree.length = 32
  parents : ∀ o, o ∈ c.parents → o.length = 32
  many : c.parents.length ≤ 8
  who : c.who.length ≤ 255
  t0 : 0 ≤ c.time
  t1 : c.time ≤ 18446744073709551615
  text : c.text.length ≤ 4096
theorem rdIs_back (xs : List Int) (pl : Nat) (ids : List (List Int)) (tl : List Int) (hf : ∀ o, o ∈ ids → o.length = 32) (hd : xs.drop pl = ids.flatten ++ tl) : ∀ k, k ≤ ids.length → rdIs xs pl 0 k = (ids.take k, pl + (ids.take k).flatten.length, 0) := by
  intro k
  induction k with
  | zero => intro _; simp [rdIs]
  | succ k ih =>
    intro hk
    have h := ih (by omega)
    obtain ⟨e, he⟩ : ∃ e, ids[k]? = some e := ⟨_, List.getElem?_eq_getElem (by omega)⟩
    have hlt : k < ids.length := by omega
    have hek : ids[k] = e := (List.getElem?_eq_some_iff.1 he).2
    have h32 := hf e (List.mem_of_getElem? he)
    have hsp : ids.flatten = (ids.take k).flatten ++ (e ++ (ids.drop (k + 1)).flatten) := by
      have e1 : ids = ids.take k ++ (e :: ids.drop (k + 1)) := by rw [← hek, ← List.drop_eq_getElem_cons hlt, List.take_append_drop]
      conv => lhs; rw [e1]
      rw [List.flatten_append, List.flatten_cons]
    rw [hsp, List.append_assoc] at hd
    have hd2 := drop_at hd
    rw [List.append_assoc] at hd2
    have hr := back_raw xs _ e _ hd2
    rw [h32] at hr
    have hr' : takeL xs (pl + (ids.take k).flatten.length) 0 3 32 0 = ⟨0, e, pl + (ids.take k).flatten.length + 32, 0⟩ := hr
    unfold rdIs
    rw [h]
    dsimp only
    rw [hr', List.take_succ_eq_append_getElem hlt, hek, List.flatten_append, List.length_append]
    dsimp only
    rw [idOf_id h32]
    refine Prod.ext rfl (Prod.ext ?_ rfl)
    simp [h32]
    omega
/-- A commit's own encoding, read. -/
theorem com_back (c : ComL) (hf : c.Fit) : ∃ y1 y2 y3 y4 y5 : Took, ∃ p : Nat, takeL (encC c) 0 0 0 1 0 = ⟨3, [], 1, 0⟩ ∧ y1 = takeL (encC c) 1 0 3 32 0 ∧ y2 = takeL (encC c) y1.pl y1.f 1 0 8 ∧ y2.n = (c.parents.length : Int) ∧ rdIs (encC c) y2.pl y2.f c.parents.length = (c.parents, p, 0) ∧
    y3 = takeL (encC c) p 0 2 0 255 ∧ y4 = takeL (encC c) y3.pl y3.f 0 8 0 ∧ y5 = takeL (encC c) y4.pl y4.f 2 0 4096 ∧ c = ⟨idOf y1.text, c.parents, y3.text, y4.n, y5.text⟩ ∧ y5.f = 0 ∧ y5.pl = (encC c).length := by
  have d0 : (encC c).drop 0 = fixedB 3 1 ++ (c.tree ++ (varB c.parents.length ++ (c.parents.flatten ++ (varB c.who.length ++ c.who ++ (fixedB c.time 8 ++ (varB c.text.length ++ c.text ++ [])))))) := by
    rw [List.drop_zero, List.append_nil]; unfold encC; simp only [List.append_assoc]
  have hm := hf.many
  have e0 := back_fixed (encC c) 0 1 3 _ (by decide) (by decide) d0
  have d1 := drop_at d0
  rw [fixedB_len, Nat.zero_add] at d1
  have e1 := back_raw (encC c) 1 c.tree _ d1
  rw [hf.tree] at e1
  have d2 := drop_at d1
  rw [hf.tree] at d2
  have e2 := back_var' (encC c) (1 + 32) (c.parents.length : Int) 8 _ (by omega) (by omega) (by omega) d2
  have d3 := drop_at d2
  have e3 := rdIs_back (encC c) (1 + 32 + (varB c.parents.length).length) c.parents _ hf.parents d3 c.parents.length (Nat.le_refl _)
  rw [List.take_length] at e3
  have d4 := drop_at d3
  have e4 := back_bytes' (encC c) (1 + 32 + (varB c.parents.length).length + c.parents.flatten.length) c.who _ 255 (by have := hf.who; omega) (by have := hf.who; omega) d4
  have d5 := drop_at d4
  have e5 := back_fixed (encC c) (1 + 32 + (varB c.parents.length).length + c.parents.flatten.length + (varB c.who.length ++ c.who).length) 8 c.time _ hf.t0 (by have := hf.t1; show c.time < 256 ^ 8; omega) d5
  have d6 := drop_at d5
  rw [fixedB_len] at d6
  have e6 := back_bytes' (encC c) (1 + 32 + (varB c.parents.length).length + c.parents.flatten.length + (varB c.who.length ++ c.who).length + 8) c.text [] 4096 (by have := hf.text; omega) (by have := hf.text; omega) d6
  refine ⟨_, _, _, _, _, _, e0, e1.symm, e2.symm, rfl, e3, e4.symm, e5.symm, e6.symm, ?_, rfl, ?_⟩
  · dsimp only
    rw [idOf_id hf.tree]
  · dsimp only
    unfold encC
    simp only [List.length_append, fixedB_len, hf.tree]
    omega
end Go.Proofs.YtmjakhmkddgffaaGreatDoor
