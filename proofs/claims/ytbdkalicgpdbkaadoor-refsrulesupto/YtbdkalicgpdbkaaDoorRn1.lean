/-
  WALKS: refs.isIn, refs.mayFollow: which rune may follow which in a ref's name.
-/
import Derived.Test.YtbdkalicgpdbkaaDoorShRune
import Derived.Test.YtbdkalicgpdbkaaDoorRn0
import Derived.Test.YtbdkalicgpdbkaaDoorConv
namespace Go.Proofs.YtbdkalicgpdbkaaDoor
open Go.RowKit

def inS (S : ByteArray) (r : Int) : Bool := decide (0 ≤ Lib.indexByte S.data.toList r.toNat.toUInt8)
def smallS : ByteArray := ⟨#[97, 98, 99, 100, 101, 102, 103, 104, 105, 106, 107, 108, 109, 110, 111, 112, 113, 114, 115, 116, 117, 118, 119, 120, 121, 122]⟩
def capS : ByteArray := ⟨#[65, 66, 67, 68, 69, 70, 71, 72, 73, 74, 75, 76, 77, 78, 79, 80, 81, 82, 83, 84, 85, 86, 87, 88, 89, 90]⟩
def digS : ByteArray := ⟨#[48, 49, 50, 51, 52, 53, 54, 55, 56, 57]⟩
theorem sets_low : ∀ n : Fin 128, (inS smallS (n.val : Int) || inS capS (n.val : Int) || inS digS (n.val : Int)) = alnumB (n.val : Int) := by decide +kernel
theorem sgn_slash : ∀ n : Fin 128, inS ⟨#[95]⟩ (n.val : Int) = decide ((n.val : Int) = 95) := by decide +kernel
theorem sgn_dot : ∀ n : Fin 128, inS ⟨#[95, 45]⟩ (n.val : Int) = (decide ((n.val : Int) = 95) || decide ((n.val : Int) = 45)) := by decide +kernel
theorem sgn_else : ∀ n : Fin 128, inS ⟨#[46, 95, 45, 47]⟩ (n.val : Int) = (decide ((n.val : Int) = 46) || decide ((n.val : Int) = 95) || decide ((n.val : Int) = 45) || decide ((n.val : Int) = 47)) := by decide +kernel
theorem may_low {last r : Int} {S : ByteArray} (h0 : 0 ≤ r) (h1 : r < 128) (hS : inS S r = sgnB last r) : [smallS, capS, digS, S].any (fun S => inS S r) = mayB last r := by
  obtain ⟨n, rfl⟩ : ∃ n : Nat, r = n := ⟨r.toNat, by omega⟩
  have h := sets_low ⟨n, by omega⟩
  simp only at h
  unfold mayB
  rw [← h, ← hS, decide_eq_false (by omega)]
  simp only [List.any_cons, List.any_nil, Bool.or_false, Bool.false_or, Bool.or_assoc]

set_option maxHeartbeats 1000000 in
theorem isIn_any (Ss : List ByteArray) (r : Int) (h0 : 0 ≤ r) (h1 : r < 128) (g n : Nat) (hn : Ss.length = n) (hl : n ≤ 1000) (w : World) (hb : ∀ (i : Nat) S, Ss[i]? = some S → w.cell? ⟨g, i, none⟩ = some (.string S)) :
    Calls Tryd.prog 44 #[.int .i32 r, .slice (some ⟨g, 0, none⟩) n n] w fun e w' => e = .returned (.bool (Ss.any fun S => inS S r)) ∧ w' = w := by
  have hcr : ∀ S W, Calls Tryd.prog 59 #[.string S, .int .i32 r] W fun e w' => e = .returned (.bool (inS S r)) ∧ w' = W := fun S W => Any.strings_ContainsRune_ascii Tryd.laysRune S r W h0 h1
  have HA : Hid (∀ k, k ≤ n → (Ss.take k).any (fun S => inS S r) = false → n ≤ k → Ss.any (fun S => inS S r) = false) := fun k _ h hk => by rwa [List.take_of_length_le (by omega)] at h
  have HB : Hid (∀ k S, Ss[k]? = some S → (Ss.take k).any (fun S => inS S r) = false → inS S r = false → (Ss.take (k + 1)).any (fun S => inS S r) = false) := fun k S hS h hf => by
    rw [List.take_add_one, hS, List.any_append, h]
    simp [hf]
  have HC : Hid (∀ k S, Ss[k]? = some S → inS S r = true → Ss.any (fun S => inS S r) = true) := fun k S hS ht => List.any_eq_true.2 ⟨S, List.mem_of_getElem? hS, ht⟩
  have HG : Hid (∀ k, k < n → ∃ S, Ss[k]? = some S) := fun k hk => ⟨_, List.getElem?_eq_getElem (by omega)⟩
  obtain ⟨res, hres⟩ : ∃ res, res = Ss.any fun S => inS S r := ⟨_, rfl⟩
  rw [← hres] at HA HC ⊢
  clear h0 h1 hn hres
  go_enter Tryd.func44, Tryd.ntmps44
  go_wp2
  go_loop [9] (fun i => ∃ k : Nat, k ≤ n ∧ i = .int .i64 k ∧ Hid ((Ss.take k).any (fun S => inS S r) = false)) (fun i => n - (intOf i).toNat)
  case atStart => exact ⟨0, Nat.zero_le _, rfl, rfl⟩
  case round =>
    obtain ⟨k, hk, rfl, HK⟩ := hrel
    by_cases hlt : k < n
    · obtain ⟨S, hS⟩ := HG.out k hlt
      have hcell := hb k S hS
      have hcs := hcr S
      by_cases ht : inS S r = true
      · rw [ht] at hcs
        have hR : Hid (res = true) := HC.out k S hS ht
        clear ht hS
        go_wp2_with (go_at_call 59; refine (hcs _).mono ?_; rintro e w9 ⟨rfl, hw9⟩; subst w9)
        go_ret
        exact ⟨by rw [hR.out]; rfl, rfl⟩
      · have ht' : inS S r = false := by simpa using ht
        rw [ht'] at hcs
        have HK' : Hid _ := HB.out k S hS HK.out ht'
        clear ht ht' hS
        go_wp2_with (go_at_call 59; refine (hcs _).mono ?_; rintro e w9 ⟨rfl, hw9⟩; subst w9)
        go_round
        case rel => exact ⟨k + 1, by omega, by go_num, HK'⟩
        case measure => simp [intOf]; omega
    · have hR : Hid (res = false) := HA.out k hk HK.out (by omega)
      go_wp2
      go_ret
      exact ⟨by rw [hR.out]; rfl, rfl⟩

set_option maxRecDepth 100000 in
set_option maxHeartbeats 1000000 in
theorem mayFollow_any (last r : Int) (h0 : 0 ≤ r) (w : World) : Calls Tryd.prog 26 #[.int .i32 last, .int .i32 r] w fun e w' => e = .returned (.bool (mayB last r)) ∧ Kept [] w w' := by
  by_cases h1 : r < 128
  · have d1 : decide (127 < r) = false := decide_eq_false (by omega)
    obtain ⟨n, hn⟩ : ∃ n : Nat, r = n := ⟨r.toNat, by omega⟩
    have hin : ∀ (S : ByteArray) (W : World), W.heap[w.heap.size]? = some (.cells #[.string smallS, .string capS, .string digS, .string S] 9 (0, 0)) → inS S r = sgnB last r → Calls Tryd.prog 44 #[.int .i32 r, .slice (some ⟨w.heap.size, 0, none⟩) 4 4] W fun e w' => e = .returned (.bool (mayB last r)) ∧ w' = W := fun S W hW hS => by
      rw [← may_low h0 h1 hS]
      refine isIn_any [smallS, capS, digS, S] r h0 h1 w.heap.size 4 rfl (by omega) W fun i s hs => ?_
      rw [cell_of_row _ _ _ _ _ _ hW]
      match i, hs with
      | 0, hs => cases hs; rfl
      | 1, hs => cases hs; rfl
      | 2, hs => cases hs; rfl
      | 3, hs => cases hs; rfl
      | i + 4, hs => simp at hs
    have HK : Hid (∀ o, Kept [] w (w.alloc o)) := fun o => (Kept.refl _ _).alloc o
    have HA : Hid (∀ o, (w.alloc o).heap[w.heap.size]? = some o) := fun o => heap_alloc_new w o
    by_cases a1 : last = 47
    · have e1 : (last == 47) = true := by simpa using a1
      have hI := fun W hW => hin ⟨#[95]⟩ W hW (by
        unfold sgnB; rw [if_pos a1, hn]; exact sgn_slash ⟨n, by omega⟩)
      clear a1 hin hn
      generalize mayB last r = m at *
      go_enter Tryd.func26, Tryd.ntmps26
      go_wp2_with (go_at_call 44; refine (hI _ (HA.out _)).mono ?_; rintro e w9 ⟨rfl, hw9⟩; subst w9)
      go_ret
      exact ⟨rfl, HK.out _⟩
    · have e1 : (last == 47) = false := by simpa using a1
      by_cases a2 : last = 46
      · have e2 : (last == 46) = true := by simpa using a2
        have hI := fun W hW => hin ⟨#[95, 45]⟩ W hW (by
          unfold sgnB; rw [if_neg a1, if_pos a2, hn]; exact sgn_dot ⟨n, by omega⟩)
        clear a1 a2 hin hn
        generalize mayB last r = m at *
        go_enter Tryd.func26, Tryd.ntmps26
        go_wp2_with (go_at_call 44; refine (hI _ (HA.out _)).mono ?_; rintro e w9 ⟨rfl, hw9⟩; subst w9)
        go_ret
        exact ⟨rfl, HK.out _⟩
      · have e2 : (last == 46) = false := by simpa using a2
        have hI := fun W hW => hin ⟨#[46, 95, 45, 47]⟩ W hW (by
          unfold sgnB; rw [if_neg a1, if_neg a2, hn]; exact sgn_else ⟨n, by omega⟩)
        clear a1 a2 hin hn
        generalize mayB last r = m at *
        go_enter Tryd.func26, Tryd.ntmps26
        go_wp2_with (go_at_call 44; refine (hI _ (HA.out _)).mono ?_; rintro e w9 ⟨rfl, hw9⟩; subst w9)
        go_ret
        exact ⟨rfl, HK.out _⟩
  · have d1 : decide (127 < r) = true := decide_eq_true (by omega)
    have hm : mayB last r = true := by unfold mayB; rw [decide_eq_true (by omega)]; rfl
    rw [hm]
    by_cases a1 : last = 47
    · have e1 : (last == 47) = true := by simpa using a1
      clear a1 hm
      go_enter Tryd.func26, Tryd.ntmps26
      go_wp2
      go_ret
      exact ⟨rfl, Kept.refl _ _⟩
    · have e1 : (last == 47) = false := by simpa using a1
      by_cases a2 : last = 46
      · have e2 : (last == 46) = true := by simpa using a2
        clear a1 a2 hm
        go_enter Tryd.func26, Tryd.ntmps26
        go_wp2
        go_ret
        exact ⟨rfl, Kept.refl _ _⟩
      · have e2 : (last == 46) = false := by simpa using a2
        clear a1 a2 hm
        go_enter Tryd.func26, Tryd.ntmps26
        go_wp2
        go_ret
        exact ⟨rfl, Kept.refl _ _⟩
end Go.Proofs.YtbdkalicgpdbkaaDoor
