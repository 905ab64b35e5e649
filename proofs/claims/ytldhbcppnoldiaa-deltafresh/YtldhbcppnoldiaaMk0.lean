/-
  PLAIN MATHEMATICS of package delta's Make: commands as they are written, and what Apply makes of them.
-/
import Derived.Test.YtldhbcppnoldiaaReaderF
import Derived.Test.YtldhbcppnoldiaaPlain5
import Derived.Test.YtldhbcppnoldiaaEyP
namespace Go.Proofs.Ytldhbcppnoldiaa
open Go.RowKit

/-- How many bytes a number takes. -/
def wd (n : Nat) : Nat := (varB (n : Int)).length
theorem wd_last (n : Nat) : wd n = lastOf n + 1 := by unfold wd varB; rw [List.length_append, varHead_len]; rfl
theorem wd_mono {a b : Nat} (h : a ≤ b) (hb : b ≤ 18446744073709551615) : wd a ≤ wd b := by
  rw [wd_last, wd_last]
  obtain ⟨a1, a2, _⟩ := lastOf_spec (a : Int) (by omega) (by omega)
  obtain ⟨b1, b2, _⟩ := lastOf_spec (b : Int) (by omega) (by omega)
  rcases Nat.lt_or_ge (lastOf (b : Int)) (lastOf (a : Int)) with h1 | h1
  · exfalso
    have h2 := a2 (by omega)
    have h3 : (128 : Int) ^ (lastOf (b : Int) + 1) ≤ 128 ^ lastOf (a : Int) := by
      rw [pow128, pow128]
      exact Int.ofNat_le.2 (Nat.pow_le_pow_right (by decide) (by omega))
    omega
  · omega
theorem wd_three (n : Nat) (h : n < 2097152) : wd n ≤ 3 := by
  rw [wd_last]
  obtain ⟨_, a2, _⟩ := lastOf_spec (n : Int) (by omega) (by omega)
  rcases Nat.lt_or_ge (lastOf (n : Int)) 3 with h1 | h1
  · omega
  · exfalso
    have h2 := a2 (by omega)
    have h3 : (128 : Int) ^ 3 ≤ 128 ^ lastOf (n : Int) := by
      rw [pow128, pow128]
      exact Int.ofNat_le.2 (Nat.pow_le_pow_right (by decide) (by omega))
    have h4 : (128 : Int) ^ 3 = 2097152 := by decide
    omega
theorem wd_one (n : Nat) (h : n < 128) : wd n = 1 := by
  unfold wd
  rw [varB_small n (by omega) (by omega)]
  rfl
theorem wd_pos (n : Nat) : 1 ≤ wd n := by rw [wd_last]; omega

/-- A command: new bytes, or a copy of so many bytes of the base from there on. -/
inductive Cd where
  | new (t : List Int)
  | cp (st n : Nat)
def Cd.enc : Cd → List Int
  | .new t => varB ((2 * t.length : Nat) : Int) ++ t
  | .cp st n => varB ((2 * n + 1 : Nat) : Int) ++ varB (st : Int)
def Cd.txt (bs : List Int) : Cd → List Int
  | .new t => t
  | .cp st n => (bs.drop st).take n
def Cd.ok (bs : List Int) : Cd → Prop
  | .new t => 0 < t.length
  | .cp st n => 0 < n ∧ st + n ≤ bs.length
def encs (cs : List Cd) : List Int := cs.flatMap Cd.enc
def txts (bs : List Int) (cs : List Cd) : List Int := cs.flatMap (Cd.txt bs)
theorem encs_snoc (cs : List Cd) (c : Cd) : encs (cs ++ [c]) = encs cs ++ c.enc := by simp [encs]
theorem txts_snoc (bs : List Int) (cs : List Cd) (c : Cd) : txts bs (cs ++ [c]) = txts bs cs ++ c.txt bs := by simp [txts]
theorem txt_pos {bs : List Int} {c : Cd} (h : c.ok bs) : 0 < (c.txt bs).length := by
  cases c with
  | new t => exact h
  | cp st n =>
    obtain ⟨h1, h2⟩ := h
    show 0 < ((bs.drop st).take n).length
    rw [List.length_take, List.length_drop]
    omega

/-- One command, read. -/
theorem cmd_enc (bs ds : List Int) (pl room : Nat) (c : Cd) (tl : List Int) (hc : c.ok bs) (hb : bs.length ≤ 65536) (hr : (c.txt bs).length ≤ room) (hr2 : room ≤ 65536) (hd : ds.drop pl = c.enc ++ tl) :
    cmdL bs ds pl room = ⟨0, c.txt bs, pl + c.enc.length⟩ := by
  cases c with
  | new t =>
    have ht : 0 < t.length := hc
    have hr' : t.length ≤ room := hr
    have hd1 : ds.drop pl = varB ((2 * t.length : Nat) : Int) ++ (t ++ tl) := by rw [hd]; show _ ++ t ++ tl = _; rw [List.append_assoc]
    have h1 : cmd1 ds pl = ⟨((2 * t.length : Nat) : Int), [], pl + (varB ((2 * t.length : Nat) : Int)).length, 0⟩ := back_var' ds pl _ topV _ (by omega) (by omega) (by unfold topV; omega) hd1
    have hd2 : ds.drop (pl + (varB ((2 * t.length : Nat) : Int)).length) = t ++ tl := by rw [← List.drop_drop, hd1, List.drop_left]
    have hl : ds.length - (pl + (varB ((2 * t.length : Nat) : Int)).length) = t.length + tl.length := by rw [← List.length_drop, hd2, List.length_append]
    have e1 : ((2 * t.length : Nat) : Int) % 2 = 0 := by omega
    have e2 : ((2 * t.length : Nat) : Int) / 2 = (t.length : Int) := by omega
    have h2 : cmd2 ds pl = ⟨0, t, pl + (varB ((2 * t.length : Nat) : Int)).length + t.length, 0⟩ := by
      unfold cmd2
      rw [h1]
      dsimp only
      rw [if_pos e1, e2, takeL_raw ds _ t.length (by omega) (by omega), hd2]
      simp
    unfold cmdL cmdOf
    rw [h1, h2]
    dsimp only
    rw [if_neg (by simp), if_neg (by omega), if_neg (by omega), if_neg (by simp), if_pos e1]
    show (⟨0, t, _⟩ : Cmd) = ⟨0, t, pl + (varB ((2 * t.length : Nat) : Int) ++ t).length⟩
    rw [List.length_append, Nat.add_assoc]
  | cp st n =>
    obtain ⟨hn, hst⟩ := hc
    have hr' : n ≤ room := by
      have h : ((bs.drop st).take n).length ≤ room := hr
      rw [List.length_take, List.length_drop] at h
      omega
    have hd1 : ds.drop pl = varB ((2 * n + 1 : Nat) : Int) ++ (varB (st : Int) ++ tl) := by rw [hd]; show _ ++ varB (st : Int) ++ tl = _; rw [List.append_assoc]
    have h1 : cmd1 ds pl = ⟨((2 * n + 1 : Nat) : Int), [], pl + (varB ((2 * n + 1 : Nat) : Int)).length, 0⟩ := back_var' ds pl _ topV _ (by omega) (by omega) (by unfold topV; omega) hd1
    have hd2 : ds.drop (pl + (varB ((2 * n + 1 : Nat) : Int)).length) = varB (st : Int) ++ tl := by rw [← List.drop_drop, hd1, List.drop_left]
    have e1 : ¬ ((2 * n + 1 : Nat) : Int) % 2 = 0 := by omega
    have e2 : ((2 * n + 1 : Nat) : Int) / 2 = (n : Int) := by omega
    have h2 : cmd2 ds pl = ⟨(st : Int), [], pl + (varB ((2 * n + 1 : Nat) : Int)).length + (varB (st : Int)).length, 0⟩ := by
      unfold cmd2
      rw [h1]
      dsimp only
      rw [if_neg e1]
      exact back_var' ds _ _ topV _ (by omega) (by omega) (by unfold topV; omega) hd2
    unfold cmdL cmdOf
    rw [h1, h2]
    dsimp only
    rw [if_neg (by simp), if_neg (by omega), if_neg (by omega), if_neg (by simp), if_neg e1, if_neg (by omega), e2]
    show (⟨0, _, _⟩ : Cmd) = ⟨0, (bs.drop st).take n, pl + (varB ((2 * n + 1 : Nat) : Int) ++ varB (st : Int)).length⟩
    rw [List.length_append, Nat.add_assoc, Int.toNat_natCast, Int.toNat_natCast]

/-- All commands, read, with whatever bytes behind them. -/
theorem run_cs (bs : List Int) (hb : bs.length ≤ 65536) (ds suf : List Int) : ∀ (cs : List Cd) (pl fuel : Nat) (acc : List Int), (∀ c, c ∈ cs → c.ok bs) → (txts bs cs).length ≤ fuel → (txts bs cs).length ≤ 65536 → ds.drop pl = encs cs ++ suf →
    runL bs ds fuel pl (txts bs cs).length acc = if suf = [] then (0, acc ++ txts bs cs) else (70, [])
  | [], pl, fuel, acc, _, _, _, hd => by
    show runL bs ds fuel pl 0 acc = _
    rw [run_done]
    have hd' : ds.drop pl = suf := hd
    by_cases hs : suf = []
    · rw [if_pos hs]
      rw [hs] at hd'
      have := List.drop_eq_nil_iff.1 hd'
      rw [if_neg (by omega)]
      show (0, acc) = (0, acc ++ [])
      rw [List.append_nil]
    · rw [if_neg hs, if_pos]
      apply Decidable.byContradiction
      intro h
      rw [List.drop_eq_nil_of_le (by omega)] at hd'
      exact hs hd'.symm
  | c :: cs, pl, fuel, acc, hok, hf, hl, hd => by
    have hc := hok c (by simp)
    have htl : (txts bs (c :: cs)).length = (c.txt bs).length + (txts bs cs).length := by show (c.txt bs ++ txts bs cs).length = _; rw [List.length_append]
    have hp := txt_pos hc
    have hd1 : ds.drop pl = c.enc ++ (encs cs ++ suf) := by rw [hd]; show c.enc ++ encs cs ++ suf = _; rw [List.append_assoc]
    have hcmd := cmd_enc bs ds pl (txts bs (c :: cs)).length c _ hc hb (by omega) hl hd1
    rw [run_on bs ds fuel pl _ acc hf (by omega) (by rw [hcmd]), hcmd]
    dsimp only
    have hd2 : ds.drop (pl + c.enc.length) = encs cs ++ suf := by rw [← List.drop_drop, hd1, List.drop_left]
    have e : (txts bs (c :: cs)).length - (c.txt bs).length = (txts bs cs).length := by omega
    rw [e, run_cs bs hb ds suf cs _ _ _ (fun x hx => hok x (by simp [hx])) (by omega) (by omega) hd2]
    have e2 : acc ++ c.txt bs ++ txts bs cs = acc ++ txts bs (c :: cs) := by rw [List.append_assoc]; rfl
    rw [e2]

/-- A delta as it is written: both lengths, the commands. -/
def delL (bs tg : List Int) (cs : List Cd) : List Int := varB (bs.length : Int) ++ varB (tg.length : Int) ++ encs cs
theorem head_del (bs tg : List Int) (cs : List Cd) (suf : List Int) (hb : bs.length ≤ 65536) (ht : tg.length ≤ 65536) (fit : Int → Bool) :
    headL (delL bs tg cs ++ suf) fit = if fit bs.length = false then ⟨71, 0, 0, 0⟩ else ⟨0, bs.length, tg.length, wd bs.length + wd tg.length⟩ := by
  have hd0 : (delL bs tg cs ++ suf).drop 0 = varB (bs.length : Int) ++ (varB (tg.length : Int) ++ (encs cs ++ suf)) := by
    rw [List.drop_zero]; unfold delL; simp only [List.append_assoc]
  have h1 : len1 (delL bs tg cs ++ suf) = ⟨bs.length, [], 0 + wd bs.length, 0⟩ := back_var' _ 0 _ 65536 _ (by omega) (by omega) (by omega) hd0
  have hd1 : (delL bs tg cs ++ suf).drop (0 + wd bs.length) = varB (tg.length : Int) ++ (encs cs ++ suf) := by rw [← List.drop_drop, hd0]; exact List.drop_left
  have h2 : len2 (delL bs tg cs ++ suf) = ⟨tg.length, [], 0 + wd bs.length + wd tg.length, 0⟩ := by
    unfold len2
    rw [h1]
    exact back_var' _ _ _ topV _ (by omega) (by omega) (by unfold topV; omega) hd1
  unfold headL headOf
  rw [h1, h2]
  dsimp only
  rw [if_neg (by simp)]
  by_cases hf : fit bs.length = false
  · rw [if_pos hf, if_pos hf]
  · rw [if_neg hf, if_neg hf, if_neg (by simp), if_neg (by omega), Nat.zero_add]
theorem apply_del (bs tg : List Int) (cs : List Cd) (suf : List Int) (hb : bs.length ≤ 65536) (ht : tg.length ≤ 65536) (hok : ∀ c, c ∈ cs → c.ok bs) (htx : txts bs cs = tg) :
    applyL bs (delL bs tg cs ++ suf) = if suf = [] then (0, tg) else (70, []) := by
  unfold applyL
  rw [head_del bs tg cs suf hb ht, if_neg (by simp)]
  unfold applyOf
  rw [if_neg (by simp)]
  dsimp only
  rw [Int.toNat_natCast, ← htx]
  have hd : (delL bs tg cs ++ suf).drop (wd bs.length + wd tg.length) = encs cs ++ suf := by
    unfold delL
    rw [List.append_assoc, List.drop_append_of_le_length (by rw [List.length_append]; exact Nat.le_refl _), List.drop_eq_nil_of_le (by rw [List.length_append]; exact Nat.le_refl _)]
    rfl
  rw [htx]
  have h := run_cs bs hb (delL bs tg cs ++ suf) suf cs _ tg.length [] hok (by rw [htx]; exact Nat.le_refl _) (by rw [htx]; exact ht) hd
  rw [htx] at h
  exact h

end Go.Proofs.Ytldhbcppnoldiaa
