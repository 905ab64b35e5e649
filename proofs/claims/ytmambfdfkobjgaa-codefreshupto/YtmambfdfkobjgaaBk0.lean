/-
  THE BOOK of satchellaw1: its marks; WALKS: at, tight.
-/
import Derived.Test.YtmambfdfkobjgaaPlain2
import Derived.Test.YtmambfdfkobjgaaWriter
namespace Go.Proofs.Ytmambfdfkobjgaa
open Go.RowKit

/-- Byte k of the mark n. -/
def atM (n : Int) (k : Nat) : Int := if (k : Int) % 2 = 0 then 1 + n % 251 else 1 + (7 * n + n / 251) % 251
theorem atM_oct (n : Int) (k : Nat) : 0 ≤ atM n k ∧ atM n k ≤ 255 := by
  unfold atM
  split <;> omega
/-- The first k bytes of a mark. -/
def marks (n : Int) (k : Nat) : List Int := (List.range k).map (atM n)
theorem marks_len (n : Int) (k : Nat) : (marks n k).length = k := by simp [marks]
theorem marks_succ (n : Int) (k : Nat) : marks n (k + 1) = marks n k ++ [atM n k] := by simp [marks, List.range_succ]
theorem marks_get (n : Int) (k i : Nat) (h : i < k) : (marks n k)[i]? = some (atM n i) := by simp [marks, h]
theorem marks_octs (n : Int) (k : Nat) : Octs (marks n k) := fun u hu => by
  obtain ⟨i, _, rfl⟩ := List.mem_map.1 hu
  exact atM_oct n i

set_option maxHeartbeats 1000000 in
theorem at_any (n : Int) (h0 : 0 ≤ n) (h1 : n ≤ 1000000000) (k : Nat) (w : World) :
    Calls Try.prog 60 #[.int .i64 n, .int .i64 k] w fun e w' => e = .returned (.int .u8 (atM n k)) ∧ w' = w := by
  have hk : (0 : Int) ≤ k := by omega
  by_cases he : (k : Int) % 2 = 0
  · have HA : Hid (atM n k = 1 + n % 251) := by
      have e : atM n k = 1 + n % 251 := by unfold atM; rw [if_pos he]
      exact e
    have e1 : ((k : Int) % 2 == 0) = true := by simpa using he
    have w1 : IntKind.i64.wrap (1 + n % 251) = 1 + n % 251 := by rw [IntKind.wrap_i64]; omega
    have w2 : (1 + n % 251) % 256 = 1 + n % 251 := by omega
    clear he
    go_enter Try.func60, Try.ntmps60
    go_wp2
    go_ret
    exact ⟨by rw [HA.out]; exact rfl, rfl⟩
  · have HA : Hid (atM n k = 1 + (7 * n + n / 251) % 251) := by
      have e : atM n k = 1 + (7 * n + n / 251) % 251 := by unfold atM; rw [if_neg he]
      exact e
    have e1 : ((k : Int) % 2 == 0) = false := by simpa using he
    have p1 : 0 ≤ 7 * n + n / 251 := by omega
    have v1 : IntKind.i64.wrap (7 * n) = 7 * n := by rw [IntKind.wrap_i64]; omega
    have v2 : IntKind.i64.wrap (7 * n + n / 251) = 7 * n + n / 251 := by rw [IntKind.wrap_i64]; omega
    have w1 : IntKind.i64.wrap (1 + (7 * n + n / 251) % 251) = 1 + (7 * n + n / 251) % 251 := by rw [IntKind.wrap_i64]; omega
    have w2 : (1 + (7 * n + n / 251) % 251) % 256 = 1 + (7 * n + n / 251) % 251 := by omega
    clear he
    go_enter Try.func60, Try.ntmps60
    go_wp2
    go_ret
    exact ⟨by rw [HA.out]; exact rfl, rfl⟩
end Go.Proofs.Ytmambfdfkobjgaa
