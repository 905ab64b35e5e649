/-
  PLAIN MATHEMATICS: what reads as a delta reads so to its last byte: with bytes behind it, or without its last ones, it is none.
-/
import Derived.Test.YtoohomfnbkdhfaaMk10
namespace Go.Proofs.Ytoohomfnbkdhfaa
open Go.RowKit

theorem varFrom_ext (most : Int) (suf : List Int) : ∀ (fuel i : Nat) (n : Int) (l : List Int), (varFrom most fuel i n l).f = 0 → varFrom most fuel i n (l ++ suf) = varFrom most fuel i n l
  | 0, i, n, l, h => by simp [varFrom] at h
  | fuel + 1, i, n, [], h => by simp [varFrom] at h
  | fuel + 1, i, n, x :: r, h => by
    show varFrom most (fuel + 1) i n (x :: (r ++ suf)) = _
    unfold varFrom at h ⊢
    by_cases c1 : i = 9 ∧ 1 < x
    · rw [if_pos c1] at h; simp at h
    rw [if_neg c1] at h ⊢
    rw [if_neg c1]
    by_cases c2 : 128 ≤ x
    · rw [if_pos c2] at h ⊢
      rw [if_pos c2]
      exact varFrom_ext most suf fuel _ _ r h
    · rw [if_neg c2, if_neg c2]
theorem varL_ext (l suf : List Int) (most : Int) (h : (varL l most).f = 0) : varL (l ++ suf) most = varL l most := varFrom_ext most suf 10 0 0 l h

theorem take_var_ext (ds suf : List Int) (ho : Octs ds) (pl : Nat) (most : Int) (hm : most ≤ 18446744073709551615) (hp : pl ≤ ds.length) (h : (takeL ds pl 0 1 0 most).f = 0) :
    takeL (ds ++ suf) pl 0 1 0 most = takeL ds pl 0 1 0 most ∧ (takeL ds pl 0 1 0 most).pl ≤ ds.length := by
  have hd : (ds ++ suf).drop pl = ds.drop pl ++ suf := List.drop_append_of_le_length hp
  have hf := varL_fits (ds.drop pl) most (octs_drop ho pl) hm
  rw [takeL_var] at h
  have h0 : (varL (ds.drop pl) most).f = 0 := by
    by_cases e : (varL (ds.drop pl) most).f = 0
    · exact e
    · rw [if_pos e] at h; exact absurd h e
  have hto := hf.to
  rw [List.length_drop] at hto
  have e0 : takeL ds pl 0 1 0 most = ⟨(varL (ds.drop pl) most).n, ((ds.drop pl).take (varL (ds.drop pl) most).to).drop (varL (ds.drop pl) most).frm, pl + (varL (ds.drop pl) most).to, 0⟩ := by
    rw [takeL_var, if_neg (by simpa using h0)]
  have e1 : takeL (ds ++ suf) pl 0 1 0 most = ⟨(varL (ds.drop pl) most).n, ((ds.drop pl).take (varL (ds.drop pl) most).to).drop (varL (ds.drop pl) most).frm, pl + (varL (ds.drop pl) most).to, 0⟩ := by
    rw [takeL_var, hd, varL_ext _ _ _ h0, if_neg (by simpa using h0), List.take_append_of_le_length (by rw [List.length_drop]; omega)]
  rw [e0, e1]
  exact ⟨rfl, by show pl + _ ≤ _; omega⟩
theorem take_raw_ext (ds suf : List Int) (pl : Nat) (n : Int) (hp : pl ≤ ds.length) (h : (takeL ds pl 0 3 n 0).f = 0) :
    takeL (ds ++ suf) pl 0 3 n 0 = takeL ds pl 0 3 n 0 ∧ (takeL ds pl 0 3 n 0).pl ≤ ds.length := by
  obtain ⟨_, h1, h2, h3, h4⟩ := raw_ok ds pl n 0 h
  obtain ⟨m, rfl⟩ := Int.eq_ofNat_of_zero_le h1
  rw [takeL_raw ds pl m (by omega) (by omega), takeL_raw (ds ++ suf) pl m (by omega) (by rw [List.length_append]; omega)]
  refine ⟨?_, by dsimp only; omega⟩
  rw [List.drop_append_of_le_length hp, List.take_append_of_le_length (by rw [List.length_drop]; omega)]

theorem cmd_ext (bs ds suf : List Int) (ho : Octs ds) (pl room : Nat) (hp : pl ≤ ds.length) (h : (cmdL bs ds pl room).err = 0) : cmdL bs (ds ++ suf) pl room = cmdL bs ds pl room ∧ (cmdL bs ds pl room).pl ≤ ds.length := by
  have hcm : (cmd1 ds pl).f = 0 ∧ (cmd2 ds pl).f = 0 := by
    unfold cmdL cmdOf at h
    by_cases a : (cmd1 ds pl).f ≠ 0
    · rw [if_pos a] at h; simp at h
    rw [if_neg a] at h
    by_cases b : (cmd1 ds pl).n < 2
    · rw [if_pos b] at h; simp at h
    rw [if_neg b] at h
    by_cases c : (room : Int) < (cmd1 ds pl).n / 2
    · rw [if_pos c] at h; simp at h
    rw [if_neg c] at h
    by_cases d : (cmd2 ds pl).f ≠ 0
    · rw [if_pos d] at h; simp at h
    exact ⟨by simpa using a, by simpa using d⟩
  obtain ⟨h1, h2⟩ := hcm
  obtain ⟨e1, p1⟩ := take_var_ext ds suf ho pl topV (by decide) hp h1
  have e1' : cmd1 (ds ++ suf) pl = cmd1 ds pl := e1
  have e2 : cmd2 (ds ++ suf) pl = cmd2 ds pl ∧ (cmd2 ds pl).pl ≤ ds.length := by
    unfold cmd2 at h2 ⊢
    rw [e1']
    by_cases c : (cmd1 ds pl).n % 2 = 0
    · rw [if_pos c, h1] at h2
      rw [if_pos c, if_pos c, h1]
      exact take_raw_ext ds suf _ _ p1 h2
    · rw [if_neg c, h1] at h2
      rw [if_neg c, if_neg c, h1]
      exact take_var_ext ds suf ho _ topV (by decide) p1 h2
  have e3 : cmdL bs (ds ++ suf) pl room = cmdL bs ds pl room := by unfold cmdL; rw [e1', e2.1]
  refine ⟨e3, ?_⟩
  unfold cmdL cmdOf at h ⊢
  split
  · exact Nat.zero_le _
  · split
    · exact Nat.zero_le _
    · split
      · exact Nat.zero_le _
      · split
        · exact Nat.zero_le _
        · split
          · exact e2.2
          · split
            · exact Nat.zero_le _
            · exact e2.2

theorem run_ext (bs ds suf : List Int) (ho : Octs ds) (hs : suf ≠ []) : ∀ (fuel pl room : Nat) (acc t : List Int), pl ≤ ds.length → runL bs ds fuel pl room acc = (0, t) → room ≤ fuel → runL bs (ds ++ suf) fuel pl room acc = (70, [])
  | 0, pl, room, acc, t, hp, h, hf => by
    have hr : room = 0 := by omega
    subst hr
    rw [run_done, if_pos]
    rw [List.length_append]
    have := List.length_pos_iff.2 hs
    omega
  | fuel + 1, pl, room, acc, t, hp, h, hf => by
    by_cases h0 : room = 0
    · subst h0
      rw [run_done, if_pos]
      rw [List.length_append]
      have := List.length_pos_iff.2 hs
      omega
    · by_cases hc : (cmdL bs ds pl room).err = 0
      · obtain ⟨e1, p1⟩ := cmd_ext bs ds suf ho pl room hp hc
        rw [run_on bs ds (fuel + 1) pl room acc hf (by omega) hc] at h
        rw [run_on bs (ds ++ suf) (fuel + 1) pl room acc hf (by omega) (by rw [e1]; exact hc), e1]
        have hl := cmd_len bs ds ho pl room hc
        exact run_ext bs ds suf ho hs fuel _ _ _ t p1 h (by omega)
      · rw [run_bad bs ds (fuel + 1) pl room acc hf (by omega) hc] at h
        exact absurd (congrArg Prod.fst h) hc
theorem apply_ext (bs ds suf : List Int) (ho : Octs ds) (hs : suf ≠ []) (t : List Int) (h : applyL bs ds = (0, t)) : applyL bs (ds ++ suf) = (70, []) := by
  unfold applyL applyOf at h ⊢
  by_cases hc : (headL ds (fun n => decide (n = bs.length))).err = 0
  · rw [if_neg (by simpa using hc)] at h
    have hh : (len1 ds).f = 0 ∧ (len2 ds).f = 0 := by
      unfold headL headOf at hc
      by_cases a : (len1 ds).f ≠ 0
      · rw [if_pos a] at hc; simp at hc
      rw [if_neg a] at hc
      by_cases b : decide ((len1 ds).n = bs.length) = false
      · rw [if_pos b] at hc; simp at hc
      rw [if_neg b] at hc
      by_cases c : (len2 ds).f ≠ 0
      · rw [if_pos c] at hc; simp at hc
      exact ⟨by simpa using a, by simpa using c⟩
    obtain ⟨e1, p1⟩ := take_var_ext ds suf ho 0 65536 (by decide) (Nat.zero_le _) hh.1
    have e1' : len1 (ds ++ suf) = len1 ds := e1
    have h2 := hh.2
    unfold len2 at h2
    rw [hh.1] at h2
    obtain ⟨e2, p2⟩ := take_var_ext ds suf ho (len1 ds).pl topV (by decide) p1 h2
    have e2' : len2 (ds ++ suf) = len2 ds := by unfold len2; rw [e1', hh.1]; exact e2
    have e3 : headL (ds ++ suf) (fun n => decide (n = bs.length)) = headL ds (fun n => decide (n = bs.length)) := by unfold headL; rw [e1', e2']
    rw [e3, if_neg (by simpa using hc)]
    have p3 : (headL ds (fun n => decide (n = bs.length))).pl ≤ ds.length := by
      have e4 : (len2 ds).pl ≤ ds.length := by unfold len2; rw [hh.1]; exact p2
      unfold headL headOf
      split
      · exact Nat.zero_le _
      · split
        · exact Nat.zero_le _
        · split
          · exact Nat.zero_le _
          · split
            · exact Nat.zero_le _
            · exact e4
    exact run_ext bs ds suf ho hs _ _ _ _ t p3 h (Nat.le_refl _)
  · rw [if_pos hc] at h
    exact absurd (congrArg Prod.fst h) hc

/-- No part of a delta that ends earlier is one. -/
theorem apply_cut (bs ds : List Int) (ho : Octs ds) (t : List Int) (h : applyL bs ds = (0, t)) (k : Nat) (hk : k < ds.length) : (applyL bs (ds.take k)).1 ≠ 0 := by
  intro h0
  have e : ds = ds.take k ++ ds.drop k := (List.take_append_drop k ds).symm
  have h1 := apply_ext bs (ds.take k) (ds.drop k) (octs_take ho k) (by
    intro hn
    have := List.drop_eq_nil_iff.1 hn
    omega) (applyL bs (ds.take k)).2 (Prod.ext h0 rfl)
  rw [← e, h] at h1
  exact absurd (congrArg Prod.fst h1) (by simp)
theorem octs_cd {bs : List Int} {c : Cd} (hc : c.ok bs) (hb : bs.length ≤ 65536) (ht : (c.txt bs).length ≤ 65536) (hot : Octs (c.txt bs)) : Octs c.enc := by
  cases c with
  | new t =>
    have ht' : t.length ≤ 65536 := ht
    intro u hu
    rcases List.mem_append.1 hu with h | h
    · exact varB_octs _ (by omega) (by omega) u h
    · exact hot u h
  | cp st n =>
    obtain ⟨h1, h2⟩ := hc
    intro u hu
    rcases List.mem_append.1 hu with h | h
    · exact varB_octs _ (by omega) (by omega) u h
    · exact varB_octs _ (by omega) (by omega) u h
theorem octs_del (bs ts : List Int) (cs : List Cd) (hb : bs.length ≤ 65536) (ht : ts.length ≤ 65536) (hot : Octs ts) (hok : ∀ c, c ∈ cs → c.ok bs) (htx : txts bs cs = ts) : Octs (delL bs ts cs) := by
  intro u hu
  unfold delL at hu
  rcases List.mem_append.1 hu with h | h
  · rcases List.mem_append.1 h with h | h
    · exact varB_octs _ (by omega) (by omega) u h
    · exact varB_octs _ (by omega) (by omega) u h
  · unfold encs at h
    obtain ⟨c, hc, hcu⟩ := List.mem_flatMap.1 h
    have hsub : ∀ v, v ∈ c.txt bs → v ∈ ts := fun v hv => by rw [← htx]; exact List.mem_flatMap.2 ⟨c, hc, hv⟩
    have hlen : (c.txt bs).length ≤ ts.length := by
      rw [← htx]
      unfold txts
      obtain ⟨s, t, rfl⟩ := List.append_of_mem hc
      simp only [List.flatMap_append, List.flatMap_cons, List.length_append]
      omega
    exact octs_cd (hok c hc) hb (by omega) (fun v hv => hot v (hsub v hv)) u hcu
end Go.Proofs.Ytoohomfnbkdhfaa
