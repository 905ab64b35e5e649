/-
  WALKS: satchellaw2.begins; satchelref2.digit, Hex, Begins: the same digits as the program's.
-/
import Derived.Test.YtonnapjbplknlaaShort1
import Derived.Test.YtonnapjbplknlaaRHex
import Derived.Lib.Bytes
import Derived.Deep.RegionLaw
import Derived.Deep.RegionWith
namespace Go.Proofs.Ytonnapjbplknlaa
open Go.RowKit

theorem str_beq {xs ys : List Int} (hx : Octs xs) (hy : Octs ys) : ((strOfNums xs).toList == (strOfNums ys).toList) = decide (xs = ys) := by
  by_cases h : xs = ys
  · subst h; simp
  · rw [decide_eq_false h, beq_eq_false_iff_ne]
    intro e
    rw [Lib.strOfNums_toList, Lib.strOfNums_toList] at e
    refine h ((strOfNums_inj hx hy).1 ?_)
    have e2 : (strOfNums xs).data.toList = (strOfNums ys).data.toList := e
    cases hA : strOfNums xs with
    | mk d1 =>
      cases hB : strOfNums ys with
      | mk d2 =>
        rw [hA, hB] at e2
        have : d1 = d2 := by
          cases d1; cases d2
          simpa using e2
        rw [this]

def begB (s p : List Int) : Bool := decide (p.length ≤ s.length) && decide (s.take p.length = p)
theorem octs_take' {xs : List Int} (h : Octs xs) (n : Nat) : Octs (xs.take n) := fun u hu => h u (List.mem_of_mem_take hu)

set_option maxHeartbeats 1000000 in
theorem begins_any (s p : List Int) (w : World) (hs : Octs s) (hp : Octs p) :
    Calls Try.prog 7 #[.string (strOfNums s), .string (strOfNums p)] w fun e w' => e = .returned (.bool (begB s p)) ∧ w' = w := by
  have h1 := strOfNums_size s
  have h2 := strOfNums_size p
  have hq := str_beq (octs_take' hs p.length) hp
  rw [← str_take] at hq
  by_cases hle : p.length ≤ s.length
  · have hb : begB s p = decide (s.take p.length = p) := by unfold begB; rw [decide_eq_true hle, Bool.true_and]
    rw [hb]
    generalize decide (s.take p.length = p) = r at *
    generalize strOfNums s = S at *
    generalize strOfNums p = T at *
    go_enter Try.func7, Try.ntmps7
    go_wp2
    go_ret
    exact ⟨rfl, rfl⟩
  · have hb : begB s p = false := by unfold begB; rw [decide_eq_false hle, Bool.false_and]
    rw [hb]
    clear hq hb
    generalize strOfNums s = S at *
    generalize strOfNums p = T at *
    go_enter Try.func7, Try.ntmps7
    go_wp2
    go_ret
    exact ⟨rfl, rfl⟩

set_option maxRecDepth 100000 in
set_option maxHeartbeats 400000 in
theorem RBegins_any (bs p : List Int) (w : World) (hg : GoodID bs) (hp : Octs p) :
    Calls Try.prog 14 #[.agg (idC bs), .string (strOfNums p)] w fun e w' => e = .returned (.bool (begB (hexL bs) p)) ∧ Kept [] w w' := by
  have hsz : (Try.prog.info? 24).map (·.size) = some (idC bs).size := by rw [idC_size hg.1]; exact Try.infoID
  have hhex := fun W => RHex_any bs W hg
  have hoh : Octs (hexL bs) := fun u hu => (hexL_mem bs hg.2 u hu).2
  have h1 : (strOfNums (hexL bs)).size = 64 := by rw [strOfNums_size, hexL_len]
  have h2 := strOfNums_size p
  have hq := str_beq (octs_take' hoh p.length) hp
  rw [← str_take] at hq
  have HB : Hid ((w.alloc (.cells (idC bs) 24)).heap[w.heap.size]? = some (.cells (idC bs) 24 (0, 0))) := heap_alloc_new w _
  by_cases hle : p.length ≤ 64
  · have hb : begB (hexL bs) p = decide ((hexL bs).take p.length = p) := by unfold begB; rw [hexL_len, decide_eq_true hle, Bool.true_and]
    rw [hb]
    generalize decide ((hexL bs).take p.length = p) = r at *
    generalize strOfNums (hexL bs) = S at *
    generalize strOfNums p = T at *
    generalize idC bs = ic at *
    go_enter Try.func14, Try.ntmps14
    go_wp2_with (first
      | (refine wpList_load_row (by rfl) 24 (.tmp 2) (by rfl) w.heap.size (by rfl) 24 ic (0, 0) _ HB.out Try.underlying24 rfl hsz ?_)
      | (go_at_call 13; refine (hhex _).mono ?_; rintro e w2 ⟨rfl, hk2⟩; have HK2 : Hid (Kept [] w w2) := ((Kept.refl [] w).alloc _).then hk2; clear hk2))
    go_ret
    exact ⟨rfl, HK2.out⟩
  · have hb : begB (hexL bs) p = false := by unfold begB; rw [hexL_len, decide_eq_false hle, Bool.false_and]
    rw [hb]
    clear hq hb
    generalize strOfNums (hexL bs) = S at *
    generalize strOfNums p = T at *
    generalize idC bs = ic at *
    go_enter Try.func14, Try.ntmps14
    go_wp2_with (first
      | (refine wpList_load_row (by rfl) 24 (.tmp 2) (by rfl) w.heap.size (by rfl) 24 ic (0, 0) _ HB.out Try.underlying24 rfl hsz ?_)
      | (go_at_call 13; refine (hhex _).mono ?_; rintro e w2 ⟨rfl, hk2⟩; have HK2 : Hid (Kept [] w w2) := ((Kept.refl [] w).alloc _).then hk2; clear hk2))
    go_ret
    exact ⟨rfl, HK2.out⟩
end Go.Proofs.Ytonnapjbplknlaa
