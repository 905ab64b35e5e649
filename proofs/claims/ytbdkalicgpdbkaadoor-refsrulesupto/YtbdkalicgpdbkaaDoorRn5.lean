/-
  WALK: refs.Check: for every text.
-/
import Derived.Test.YtbdkalicgpdbkaaDoorRn1
import Derived.Test.YtbdkalicgpdbkaaDoorRn4
import Derived.Lib.OthersKept
namespace Go.Proofs.YtbdkalicgpdbkaaDoor
open Go.RowKit

theorem run_same : ∀ (xs : List Int) (a b : Int), a ≠ 46 → a ≠ 47 → b ≠ 46 → b ≠ 47 → runB a xs = runB b xs := by
  intro xs a b h1 h2 h3 h4
  cases xs with
  | nil =>
    unfold runB mayB sgnB
    rw [if_neg h2, if_neg h1, if_neg h4, if_neg h3]
  | cons c t =>
    unfold runB mayB sgnB
    rw [if_neg h2, if_neg h1, if_neg h4, if_neg h3]
theorem run_high : ∀ (n : Nat) (xs : List Int) (l c : Int), 1 ≤ n → n ≤ xs.length → (∀ k, k < n → 128 ≤ xs.getD k 0) → 128 ≤ c → runB l xs = runB c (xs.drop n)
  | 0, _, _, _, h, _, _, _ => absurd h (by decide)
  | n + 1, [], _, _, _, h, _, _ => by simp at h
  | n + 1, b :: t, l, c, _, h, hh, hc => by
    have hb : 128 ≤ b := hh 0 (by omega)
    rw [runB, List.drop_succ_cons]
    have e : mayB l b = true := by unfold mayB; rw [decide_eq_true hb]; rfl
    rw [e, Bool.true_and]
    by_cases hn : n = 0
    · subst hn
      rw [List.drop_zero]
      exact run_same t b c (by omega) (by omega) (by omega) (by omega)
    · exact run_high n t b c (by omega) (by simpa using h) (fun k hk => by simpa using hh (k + 1) (by omega)) hc

/-- A world in which a text's iterator lies in a block of its own. -/
theorem kept_iterAt {S : List Nat} {a w : World} (h : Kept S a w) {k : Nat} (hk : a.heap.size ≤ k) (s : ByteArray) (p : Nat) : Kept S a (w.iterAt k s p) :=
  h.trans (S' := [k]) ⟨rfl, rfl, rfl, by rw [Lib.iterAt_size]; exact Nat.le_refl _, fun i _ hn => Lib.iterAt_other w k i s p (by simpa using hn)⟩ (fun x hx => Or.inr (by rw [List.mem_singleton.1 hx]; exact hk))

set_option maxRecDepth 100000 in
set_option maxHeartbeats 4000000 in
theorem Check_any (xs : List Int) (ho : Octs xs) (hs : xs.length ≤ 9223372036854775807) (w : World) (hT : Tabs w) : Calls Tryd.prog 11 #[.string (strOfNums xs)] w fun e w' => e = .returned (.int .i64 (if checkB xs = true then 0 else 140)) ∧ Kept [] w w' := by
  have hval := Valid_any xs w hs hT
  have hsz := strOfNums_size xs
  have HAT : Hid (∀ p (h : p < xs.length) (h2 : p < (strOfNums xs).size), ((strOfNums xs)[p]'h2).toNat = (xs[p]'h).toNat) := fun p h _ => str_at xs ho p h
  have HO : Hid (Octs xs) := ho
  have hh := str_list xs [72, 69, 65, 68] [72, 69, 65, 68] ho (fun u hu => by simp at hu; omega) rfl
  obtain ⟨r, hr⟩ : ∃ r : Int, r = (if checkB xs = true then 0 else 140) := ⟨_, rfl⟩
  rw [← hr]
  clear hT ho
  by_cases c1 : xs = headN
  · have HR : Hid (r = 140) := by
      have : r = 140 := by rw [hr]; unfold checkB; rw [decide_eq_true c1]; rfl
      exact this
    have p1 := hh.2 c1
    clear hh hr c1 hval
    generalize strOfNums xs = S at *
    go_enter Tryd.func11, Tryd.ntmps11
    go_wp2
    go_ret
    exact ⟨by rw [HR.out]; rfl, Kept.refl _ _⟩
  have p1 : ¬ (strOfNums xs).toList = [72, 69, 65, 68] := fun e => c1 (hh.1 e)
  have q1 : ((strOfNums xs).toList == [72, 69, 65, 68]) = false := by simpa using p1
  by_cases c2 : 255 < xs.length
  · have t2 : decide ((255 : Int) < (xs.length : Int)) = true := by simp; omega
    have HR : Hid (r = 140) := by
      have : r = 140 := by rw [hr]; unfold checkB; rw [decide_eq_false (by omega : ¬ xs.length ≤ 255)]; simp
      exact this
    clear hh hr c1 hval p1
    generalize strOfNums xs = S at *
    go_enter Tryd.func11, Tryd.ntmps11
    go_wp2
    go_ret
    exact ⟨by rw [HR.out]; rfl, Kept.refl _ _⟩
  have t2 : decide ((255 : Int) < (xs.length : Int)) = false := by simp; omega
  by_cases hu : utfB xs = true
  · rw [hu] at hval
    have HR : Hid (r = if runB 47 xs = true then 0 else 140) := by
      have : r = if runB 47 xs = true then 0 else 140 := by rw [hr]; unfold checkB; rw [decide_eq_false c1, decide_eq_true (by omega : xs.length ≤ 255), hu]; rfl
      exact this
    clear hh hr c1 hu p1
    generalize strOfNums xs = S at *
    go_enter Tryd.func11, Tryd.ntmps11
    go_wp2_with (go_at_call 25; refine hval.mono ?_; rintro e w1 ⟨rfl, hk1⟩; have HK1 : Hid (Kept [] w w1) := hk1; clear hk1)
    go_loopw [3] (fun s3 wr => ∃ (p : Nat) (l : Int), p ≤ xs.length ∧ s3 = .int .i32 l ∧ Hid (wr.heap[w1.heap.size]? = some (.stringIter S p)) ∧ Hid (Kept [] w1 wr) ∧ Hid (runB 47 xs = runB l (xs.drop p))) (fun _ wr => xs.length - wr.iterPos w1.heap.size)
    case atStart => exact ⟨0, 47, Nat.zero_le _, rfl, heap_alloc_new w1 _, (Kept.refl _ _).alloc _, rfl⟩
    case round =>
      obtain ⟨p, l, hp, rfl, HI, HKW, HRL⟩ := hrel
      have hpos0 : wr.iterPos w1.heap.size = p := iterPos_of HI.out
      by_cases hlt : p < xs.length
      · have hps : p < S.size := by omega
        have hz := HO.out xs[p] (List.getElem_mem hlt)
        by_cases ha : xs[p] < 128
        · have hnx : ∀ ty, (Instr.next (.pointer (some ⟨w1.heap.size, 0, none⟩)) true ty).run Tryd.prog wr = .ok (.tuple #[.bool true, .int .i64 p, .int .i32 xs[p]]) (wr.iterAt w1.heap.size S (p + 1)) := fun ty => by
            have h := Lib.run_next_ascii_at (P := Tryd.prog) wr w1.heap.size S p ty HI.out hps (by rw [HAT.out p hlt hps]; omega)
            rw [HAT.out p hlt hps, Int.toNat_of_nonneg hz.1] at h
            exact h
          have hmay := mayFollow_any l xs[p] hz.1
          have HST : Hid (runB 47 xs = (mayB l xs[p] && runB xs[p] (xs.drop (p + 1)))) := by
            have h : runB 47 xs = (mayB l xs[p] && runB xs[p] (xs.drop (p + 1))) := by rw [HRL.out, List.drop_eq_getElem_cons hlt, runB]
            exact h
          have HI2 : Hid ((wr.iterAt w1.heap.size S (p + 1)).heap[w1.heap.size]? = some (.stringIter S (p + 1))) := Lib.iterAt_heap wr w1.heap.size S p (p + 1) HI.out
          have HK2 : Hid (Kept [] w1 (wr.iterAt w1.heap.size S (p + 1))) := kept_iterAt HKW.out (Nat.le_refl _) S (p + 1)
          by_cases hm : mayB l xs[p] = true
          · rw [hm] at hmay
            have HN : Hid (runB 47 xs = runB xs[p] (xs.drop (p + 1))) := by
              have h : runB 47 xs = runB xs[p] (xs.drop (p + 1)) := by rw [HST.out, hm, Bool.true_and]
              exact h
            clear hm HST HRL ha hz HI
            generalize xs[p] = z at *
            generalize wr.iterAt w1.heap.size S (p + 1) = wi at *
            go_wp2_with (go_at_call 26; with_reducible refine (hmay _).mono ?_; rintro e w9 ⟨rfl, k9⟩
                         have HI9 : Hid (w9.heap[w1.heap.size]? = some (.stringIter S (p + 1))) := k9.heap HI2.out (by simp)
                         have HK9 : Hid (Kept [] w1 w9) := HK2.out.then k9
                         have hpos9 : w9.iterPos w1.heap.size = p + 1 := iterPos_of HI9.out
                         clear k9)
            go_roundw
            case rel => exact ⟨p + 1, z, by omega, rfl, HI9, HK9, HN⟩
            case measure => rw [hpos9, hpos0]; omega
          · have hm' : mayB l xs[p] = false := by simpa using hm
            rw [hm'] at hmay
            have HF : Hid (r = 140) := by
              have h : r = 140 := by rw [HR.out, HST.out, hm']; rfl
              exact h
            clear hm hm' HST HRL ha hz HI
            generalize xs[p] = z at *
            generalize wr.iterAt w1.heap.size S (p + 1) = wi at *
            go_wp2_with (go_at_call 26; with_reducible refine (hmay _).mono ?_; rintro e w9 ⟨rfl, k9⟩
                         have HK9 : Hid (Kept [] w1 w9) := HK2.out.then k9
                         clear k9)
            go_ret
            exact ⟨by rw [HF.out]; rfl, HK1.out.then HK9.out⟩
        · have hge : 128 ≤ (S[p]'hps).toNat := by rw [HAT.out p hlt hps]; omega
          obtain ⟨hd1, hd2⟩ := decode_high S p hps hge
          obtain ⟨hw1, hw2⟩ := width_high S p hps
          have hnx : ∀ ty, (Instr.next (.pointer (some ⟨w1.heap.size, 0, none⟩)) true ty).run Tryd.prog wr = .ok (.tuple #[.bool true, .int .i64 p, .int .i32 (Utf8.decode S p).1]) (wr.iterAt w1.heap.size S (p + (Utf8.decode S p).2)) := fun ty => Lib.run_next_any_at (P := Tryd.prog) wr w1.heap.size S p ty HI.out hps
          have hmay := mayFollow_any l ((Utf8.decode S p).1 : Int) (by omega)
          have hmt : mayB l ((Utf8.decode S p).1 : Int) = true := by unfold mayB; rw [decide_eq_true (by omega)]; rfl
          rw [hmt] at hmay
          have HN : Hid (runB 47 xs = runB ((Utf8.decode S p).1 : Int) (xs.drop (p + (Utf8.decode S p).2))) := by
            have h : runB 47 xs = runB ((Utf8.decode S p).1 : Int) (xs.drop (p + (Utf8.decode S p).2)) := by
              rw [HRL.out, ← List.drop_drop]
              refine run_high _ _ _ _ (by omega) (by rw [List.length_drop]; omega) (fun k hk => ?_) (by omega)
              rw [List.getD_eq_getElem?_getD, List.getElem?_drop, List.getElem?_eq_getElem (by omega), Option.getD_some]
              by_cases h0 : k = 0
              · subst h0
                have : xs[p + 0] = xs[p] := rfl
                omega
              · have h3 := hw2 k (by omega) hk
                have his : p + k < S.size := by omega
                rw [get_of S (p + k) his, HAT.out (p + k) (by omega) his] at h3
                omega
            exact h
          have HI2 : Hid ((wr.iterAt w1.heap.size S (p + (Utf8.decode S p).2)).heap[w1.heap.size]? = some (.stringIter S (p + (Utf8.decode S p).2))) := Lib.iterAt_heap wr w1.heap.size S p _ HI.out
          have HK2 : Hid (Kept [] w1 (wr.iterAt w1.heap.size S (p + (Utf8.decode S p).2))) := kept_iterAt HKW.out (Nat.le_refl _) S _
          clear hmt hw2 hge ha hz HI HRL
          generalize ((Utf8.decode S p).1 : Int) = rv at *
          generalize (Utf8.decode S p).2 = n at *
          generalize wr.iterAt w1.heap.size S (p + n) = wi at *
          go_wp2_with (go_at_call 26; with_reducible refine (hmay _).mono ?_; rintro e w9 ⟨rfl, k9⟩
                       have HI9 : Hid (w9.heap[w1.heap.size]? = some (.stringIter S (p + n))) := k9.heap HI2.out (by simp)
                       have HK9 : Hid (Kept [] w1 w9) := HK2.out.then k9
                       have hpos9 : w9.iterPos w1.heap.size = p + n := iterPos_of HI9.out
                       clear k9)
          go_roundw
          case rel => exact ⟨p + n, rv, by omega, rfl, HI9, HK9, HN⟩
          case measure => rw [hpos9, hpos0]; omega
      · have hps : ¬ p < S.size := by omega
        have hnx : ∀ ty, (Instr.next (.pointer (some ⟨w1.heap.size, 0, none⟩)) true ty).run Tryd.prog wr = .ok (.tuple #[.bool false]) wr := fun ty => Lib.run_next_end_at (P := Tryd.prog) wr w1.heap.size S p ty HI.out hps
        have hmay := mayFollow_any l 47 (by omega)
        have HE : Hid (runB 47 xs = mayB l 47) := by
          have h : runB 47 xs = mayB l 47 := by rw [HRL.out, List.drop_eq_nil_of_le (by omega)]; rfl
          exact h
        cases hm : mayB l 47 with
        | true =>
          rw [hm] at hmay
          have HF : Hid (r = 0) := by
            have h : r = 0 := by rw [HR.out, HE.out, hm]; rfl
            exact h
          clear hm HE HRL HI
          go_wp2_with (go_at_call 26; with_reducible refine (hmay _).mono ?_; rintro e w9 ⟨rfl, k9⟩
                       have HK9 : Hid (Kept [] w1 w9) := HKW.out.then k9
                       clear k9)
          go_ret
          exact ⟨by rw [HF.out]; rfl, HK1.out.then HK9.out⟩
        | false =>
          rw [hm] at hmay
          have HF : Hid (r = 140) := by
            have h : r = 140 := by rw [HR.out, HE.out, hm]; rfl
            exact h
          clear hm HE HRL HI
          go_wp2_with (go_at_call 26; with_reducible refine (hmay _).mono ?_; rintro e w9 ⟨rfl, k9⟩
                       have HK9 : Hid (Kept [] w1 w9) := HKW.out.then k9
                       clear k9)
          go_ret
          exact ⟨by rw [HF.out]; rfl, HK1.out.then HK9.out⟩
  · have hu' : utfB xs = false := by simpa using hu
    rw [hu'] at hval
    have HR : Hid (r = 140) := by
      have : r = 140 := by rw [hr]; unfold checkB; rw [hu']; simp
      exact this
    clear hh hr c1 hu hu' p1
    generalize strOfNums xs = S at *
    go_enter Tryd.func11, Tryd.ntmps11
    go_wp2_with (go_at_call 25; refine hval.mono ?_; rintro e w1 ⟨rfl, hk1⟩; have HK1 : Hid (Kept [] w w1) := hk1; clear hk1)
    go_ret
    exact ⟨by rw [HR.out]; rfl, HK1.out⟩
end Go.Proofs.YtbdkalicgpdbkaaDoor
