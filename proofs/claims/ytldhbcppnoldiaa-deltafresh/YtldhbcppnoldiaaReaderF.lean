/-
  PLAIN MATHEMATICS of package delta: what a delta's head, a command and all commands come to.
  WALKS: a Reader's Fault.
-/
import Derived.Test.YtldhbcppnoldiaaReaderV
namespace Go.Proofs.Ytldhbcppnoldiaa
open Go.RowKit

def topV : Int := 18446744073709551615

/-- A delta's head: the number of the error, both lengths, the place behind. -/
structure Head where
  err : Int
  b : Int
  t : Int
  pl : Nat
def headOf (y1 y2 : Took) (fit : Bool) : Head :=
  if y1.f ≠ 0 then ⟨70, 0, 0, 0⟩ else if fit = false then ⟨71, 0, 0, 0⟩ else if y2.f ≠ 0 then ⟨70, 0, 0, 0⟩ else if 65536 < y2.n then ⟨73, 0, 0, 0⟩ else ⟨0, y1.n, y2.n, y2.pl⟩
def len1 (ds : List Int) : Took := takeL ds 0 0 1 0 65536
def len2 (ds : List Int) : Took := takeL ds (len1 ds).pl (len1 ds).f 1 0 topV
def headL (ds : List Int) (fit : Int → Bool) : Head := headOf (len1 ds) (len2 ds) (fit (len1 ds).n)

/-- One command: the number of the error, what it gives, the place behind. -/
structure Cmd where
  err : Int
  text : List Int
  pl : Nat
def cmdOf (y z : Took) (bs : List Int) (room : Nat) : Cmd :=
  if y.f ≠ 0 then ⟨70, [], 0⟩ else if y.n < 2 then ⟨70, [], 0⟩ else if (room : Int) < y.n / 2 then ⟨73, [], 0⟩
  else if z.f ≠ 0 then ⟨70, [], 0⟩
  else if y.n % 2 = 0 then ⟨0, z.text, z.pl⟩
  else if (bs.length : Int) < z.n + y.n / 2 then ⟨72, [], 0⟩ else ⟨0, (bs.drop z.n.toNat).take (y.n / 2).toNat, z.pl⟩
def cmd1 (ds : List Int) (pl : Nat) : Took := takeL ds pl 0 1 0 topV
def cmd2 (ds : List Int) (pl : Nat) : Took := if (cmd1 ds pl).n % 2 = 0 then takeL ds (cmd1 ds pl).pl (cmd1 ds pl).f 3 ((cmd1 ds pl).n / 2) 0 else takeL ds (cmd1 ds pl).pl (cmd1 ds pl).f 1 0 topV
def cmdL (bs ds : List Int) (pl room : Nat) : Cmd := cmdOf (cmd1 ds pl) (cmd2 ds pl) bs room

/-- All commands: the number of the error, the target. -/
def runL (bs ds : List Int) : Nat → Nat → Nat → List Int → Int × List Int
  | 0, pl, _, acc => if pl < ds.length then (70, []) else (0, acc)
  | fuel + 1, pl, room, acc => if room = 0 then (if pl < ds.length then (70, []) else (0, acc))
      else if (cmdL bs ds pl room).err ≠ 0 then ((cmdL bs ds pl room).err, []) else runL bs ds fuel (cmdL bs ds pl room).pl (room - (cmdL bs ds pl room).text.length) (acc ++ (cmdL bs ds pl room).text)
def applyOf (bs ds : List Int) (h : Head) : Int × List Int := if h.err ≠ 0 then (h.err, []) else runL bs ds h.t.toNat h.pl h.t.toNat []
def applyL (bs ds : List Int) : Int × List Int := applyOf bs ds (headL ds (fun n => decide (n = bs.length)))

theorem var_le (xs : List Int) (ho : Octs xs) (pl f : Nat) (most : Int) (h0 : 0 ≤ most) : 0 ≤ (takeL xs pl f 1 0 most).n ∧ (takeL xs pl f 1 0 most).n ≤ most := by
  unfold takeL
  split
  · exact ⟨Int.le_refl _, h0⟩
  · split
    · exact ⟨Int.le_refl _, h0⟩
    · rename_i h1 h2
      have e : lookL (xs.drop pl) 1 0 most = varL (xs.drop pl) most := by unfold lookL; rw [if_neg (by decide), if_pos rfl]
      rw [e] at h2 ⊢
      have hg := varL_good (xs.drop pl) most (octs_drop ho pl)
      exact ⟨hg.n0, hg.le (by simpa using h2)⟩
theorem top0 : (0 : Int) ≤ topV := by decide
/-- A number is behind the place where it began. -/
theorem raw_ok (xs : List Int) (pl : Nat) (n : Int) (f : Nat) (h : (takeL xs pl f 3 n 0).f = 0) : f = 0 ∧ 0 ≤ n ∧ (takeL xs pl f 3 n 0).text = (xs.drop pl).take n.toNat ∧ n ≤ ((xs.length - pl : Nat) : Int) ∧ (takeL xs pl f 3 n 0).pl = pl + n.toNat := by
  by_cases hf : f = 0
  · subst hf
    have e : lookL (xs.drop pl) 3 n 0 = rawL (xs.drop pl) n := by unfold lookL; rw [if_neg (by decide), if_neg (by decide), if_neg (by decide)]
    unfold takeL at h ⊢
    rw [e] at h ⊢
    rw [if_neg (by decide)] at h ⊢
    unfold rawL at h ⊢
    by_cases h0 : n < 0
    · rw [if_pos h0] at h; simp at h
    · rw [if_neg h0] at h ⊢
      by_cases h1 : ((xs.drop pl).length : Int) < n
      · rw [if_pos h1] at h; simp at h
      · rw [if_neg h1] at h ⊢
        simp only [List.length_drop] at h1
        refine ⟨rfl, by omega, by simp, ?_, by simp⟩
        omega
  · exfalso
    unfold takeL at h
    rw [if_pos hf] at h
    exact hf h
theorem cmd1_fits (ds : List Int) (ho : Octs ds) (pl : Nat) : 0 ≤ (cmd1 ds pl).n ∧ (cmd1 ds pl).n ≤ topV := var_le ds ho pl 0 topV (by decide)
theorem cmd2_fits (ds : List Int) (ho : Octs ds) (pl : Nat) : 0 ≤ (cmd2 ds pl).n ∧ (cmd2 ds pl).n ≤ topV := by
  unfold cmd2
  split
  · unfold takeL
    split
    · exact ⟨Int.le_refl _, top0⟩
    · split
      · exact ⟨Int.le_refl _, top0⟩
      · have e : ∀ n : Int, (lookL (ds.drop (cmd1 ds pl).pl) 3 n 0).n = 0 := by
          intro n
          unfold lookL
          rw [if_neg (by decide), if_neg (by decide), if_neg (by decide)]
          unfold rawL
          split
          · rfl
          · split <;> rfl
        dsimp only
        rw [e]
        exact ⟨Int.le_refl _, top0⟩
  · exact var_le ds ho _ _ topV (by decide)

/-- A command that is right gives at least one byte, and at most so many as there is room for. -/
theorem cmd_len (bs ds : List Int) (ho : Octs ds) (pl room : Nat) (h : (cmdL bs ds pl room).err = 0) : 1 ≤ (cmdL bs ds pl room).text.length ∧ (cmdL bs ds pl room).text.length ≤ room := by
  have h2 := cmd2_fits ds ho pl
  unfold cmdL cmdOf at h ⊢
  by_cases a : (cmd1 ds pl).f ≠ 0
  · rw [if_pos a] at h; simp at h
  rw [if_neg a] at h ⊢
  by_cases b : (cmd1 ds pl).n < 2
  · rw [if_pos b] at h; simp at h
  rw [if_neg b] at h ⊢
  by_cases c : (room : Int) < (cmd1 ds pl).n / 2
  · rw [if_pos c] at h; simp at h
  rw [if_neg c] at h ⊢
  by_cases d : (cmd2 ds pl).f ≠ 0
  · rw [if_pos d] at h; simp at h
  rw [if_neg d] at h ⊢
  by_cases e : (cmd1 ds pl).n % 2 = 0
  · rw [if_pos e] at h ⊢
    unfold cmd2 at d ⊢
    rw [if_pos e] at d ⊢
    obtain ⟨_, k2, k3, k4, _⟩ := raw_ok ds _ _ _ (by simpa using d)
    dsimp only
    rw [k3, List.length_take, List.length_drop]
    omega
  · rw [if_neg e] at h ⊢
    by_cases g : (bs.length : Int) < (cmd2 ds pl).n + (cmd1 ds pl).n / 2
    · rw [if_pos g] at h; simp at h
    rw [if_neg g]
    dsimp only
    rw [List.length_take, List.length_drop]
    omega
theorem octs_cmd (bs ds : List Int) (hb : Octs bs) (ho : Octs ds) (pl room : Nat) : Octs (cmdL bs ds pl room).text := by
  have nil : Octs ([] : List Int) := fun u hu => by simp at hu
  unfold cmdL cmdOf
  split
  · exact nil
  · split
    · exact nil
    · split
      · exact nil
      · split
        · exact nil
        · split
          · rename_i d e
            unfold cmd2 at d ⊢
            rw [if_pos e] at d ⊢
            obtain ⟨_, k2, k3, k4, _⟩ := raw_ok ds _ _ _ (by simpa using d)
            dsimp only
            rw [k3]
            exact octs_take (octs_drop ho _) _
          · split
            · exact nil
            · exact octs_take (octs_drop hb _) _

theorem run_done (bs ds : List Int) (fuel pl : Nat) (acc : List Int) : runL bs ds fuel pl 0 acc = if pl < ds.length then (70, []) else (0, acc) := by
  cases fuel with
  | zero => rfl
  | succ n => unfold runL; rw [if_pos rfl]
theorem run_bad (bs ds : List Int) (fuel pl room : Nat) (acc : List Int) (hf : room ≤ fuel) (h0 : 0 < room) (h : (cmdL bs ds pl room).err ≠ 0) : runL bs ds fuel pl room acc = ((cmdL bs ds pl room).err, []) := by
  cases fuel with
  | zero => omega
  | succ n => conv => lhs; unfold runL
              rw [if_neg (by omega), if_pos h]
theorem run_on (bs ds : List Int) (fuel pl room : Nat) (acc : List Int) (hf : room ≤ fuel) (h0 : 0 < room) (h : (cmdL bs ds pl room).err = 0) :
    runL bs ds fuel pl room acc = runL bs ds (fuel - 1) (cmdL bs ds pl room).pl (room - (cmdL bs ds pl room).text.length) (acc ++ (cmdL bs ds pl room).text) := by
  cases fuel with
  | zero => omega
  | succ n => conv => lhs; unfold runL
              rw [if_neg (by omega), if_neg (by simpa using h)]
              rfl

end Go.Proofs.Ytldhbcppnoldiaa

namespace Go.Proofs.Ytldhbcppnoldiaa
open Go.RowKit

theorem Fault_any {w : World} {r g : Nat} {xs : List Int} {pl f : Nat} (R : Rdr w r g xs pl f) (hf : f ≤ 4) : Calls Try.prog 92 #[.pointer (some ⟨r, 0, none⟩)] w fun e w' => e = .returned (.int .i64 (errL f)) ∧ w' = w := by
  obtain ⟨d0, d1, d2, d3, d4⟩ := R.facts
  clear R
  go_enter Try.func92, Try.ntmps92
  go_wp2_with (go_at_call 111; refine (errno_any f _ hf).mono ?_; rintro e w1 ⟨rfl, rfl⟩)
  go_ret
  exact ⟨rfl, rfl⟩

end Go.Proofs.Ytldhbcppnoldiaa
