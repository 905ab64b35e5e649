/-
  WALKS: slices.Grow of nothing, slices.Concat, refs.Merge.
-/
import Derived.Test.YtmjbaficdoehfaaMg5
import Derived.Lib.AppendZeros
namespace Go.Proofs.Ytmjbaficdoehfaa
open Go.RowKit Go.Sort

theorem zeroRows {z : Array Value} {k : Nat} (hz : z.size = k) (n : Nat) : (Builtin.zeroCells z n).size = n * k := by simp [Builtin.zeroCells, hz]
theorem run_growNil (W : World) (n : Nat) (h0 : 0 < n) (hn : n ≤ 10000000) (ty : TypeId) : ∃ v' w', (Builtin.append_ #[22, 3] ty #[.slice none 0 0, .int .i64 n]).run Try.prog W = .ok v' w' ∧ ∃ g cap cur, v' = .slice (some ⟨g, 0, none⟩) n cap ∧ W.heap.size ≤ g ∧ w'.heap[g]? = some (.cells cur 32 (0, 0)) ∧ cur.size = cap * 34 ∧ cap ≤ maxLen ∧ Kept [] W w' := by
  obtain ⟨i0, hi, hez⟩ := Option.map_eq_some_iff.1 Try.zeroStampI
  simp only [Prod.mk.injEq] at hez
  obtain ⟨q0, q1, q2⟩ := hez
  have hr := Lib.run_append_nil_zeros (P := Try.prog) W 22 3 ty 32 i0 (.agg zeroS.row.toArray) .i64 .i64 Try.underlying22 Try.underlying3 hi q0 n h0 (by rw [q1]; decide) (by omega) (by rw [q2]; omega)
  have hge := grownCap_ge W n 0 32
  have hz : (Value.agg zeroS.row.toArray).cells.size = 34 := by show zeroS.row.toArray.size = 34; rw [List.size_toArray, zeroS.row_len]
  refine ⟨_, _, hr, W.heap.size, grownCap W n 0 32, Builtin.zeroCells (Value.agg zeroS.row.toArray).cells n ++ Builtin.zeroCells (Value.agg zeroS.row.toArray).cells (grownCap W n 0 32 - n), rfl, Nat.le_refl _, ?_, ?_, ?_, ?_⟩
  · exact heap_alloc_new W.drew _
  · rw [Array.size_append, zeroRows hz, zeroRows hz, ← Nat.add_mul, Nat.add_sub_cancel' hge]
  · exact grownCap_le_maxLen W n 0 _ (by unfold maxLen; omega)
  · exact (Kept.refl [] W).drew.alloc _
set_option maxHeartbeats 1000000 in
/-- slices.Grow of nothing: an empty list of one's own. -/
theorem Grow_any (n : Nat) (hn : n ≤ 10000000) (w : World) : Calls Try.prog 17 #[.slice none 0 0, .int .i64 n] w fun e w' => ∃ v', e = .returned v' ∧ StampOwn w' w.heap.size v' [] ∧ Kept [] w w' := by
  have wn : IntKind.i64.wrap (n : Int) = n := by rw [IntKind.wrap_i64]; omega
  have n0 : (0 : Int) ≤ (n : Int) := by omega
  have t1 : decide ((n : Int) < 0) = false := decide_eq_false (by omega)
  by_cases h0 : 0 < n
  · have t2 : decide ((0 : Int) < (n : Int)) = true := decide_eq_true (by omega)
    obtain ⟨v', w1, hr, g, cap, cur, rfl, hg, hb, hs, hm, hk⟩ := run_growNil w n h0 hn 22
    have HR : Hid (StampOwn w1 w.heap.size (.slice (some ⟨g, 0, none⟩) 0 cap) [] ∧ Kept [] w w1) := by
      refine ⟨?_, hk⟩
      have := StampOwn.of (w := w1) (L := []) (cap := cap) hg hb (Nat.zero_le _) hm hs (fun i x hx => by simp at hx)
      exact this
    clear hg hb hs hm hk
    go_enter Try.func17, Try.ntmps17
    go_wp2_with (first
      | (refine Lib.wpList_append_run w (by rfl) (.tmp 20) (.tmp 21) 22 3 (by rfl) _ _ (by rfl) (by rfl) _ w1 hr ?_)
      | (refine wpList_upto (by rfl) 22 34 (by kernel_rfl) (by exact Try.sizeOf32 w1) (.tmp 22) (.tmp 24) (by rfl) g 0 n cap (by rfl) 0 0 rfl (by rfl) (Nat.zero_le _) ?_))
    go_ret
    exact ⟨_, rfl, HR.out.1, HR.out.2⟩
  · obtain rfl : n = 0 := by omega
    go_enter Try.func17, Try.ntmps17
    go_wp2
    go_ret
    exact ⟨_, rfl, StampOwn.nil w _, Kept.refl _ _⟩
theorem flat_take {Ls : List (List StampE)} {k : Nat} {L : List StampE} (h : Ls[k]? = some L) : (Ls.take (k + 1)).flatten = (Ls.take k).flatten ++ L := by
  rw [List.take_add_one, h]
  simp
theorem flat_take_le (Ls : List (List StampE)) (k : Nat) : (Ls.take k).flatten.length ≤ Ls.flatten.length := by
  have := List.take_append_drop k Ls
  conv => rhs; rw [← this]
  rw [List.flatten_append, List.length_append]
  omega
set_option maxRecDepth 100000 in
set_option maxHeartbeats 2000000 in
/-- slices.Concat: one behind the other, in new memory. -/
theorem Concat_any (g : Nat) (vs : List Value) (Ls : List (List StampE)) (w : World) (hc : ∀ (i : Nat) v, vs[i]? = some v → w.cell? ⟨g, i, none⟩ = some v) (hv : ∀ (i : Nat) v, vs[i]? = some v → ∃ L, Ls[i]? = some L ∧ StampsAt w v L) (hl : vs.length = Ls.length) (hn : Ls.flatten.length ≤ 1000000) (hn2 : vs.length ≤ 1000) :
    Calls Try.prog 10 #[.slice (some ⟨g, 0, none⟩) vs.length vs.length] w fun e w' => ∃ v', e = .returned v' ∧ StampOwn w' w.heap.size v' Ls.flatten ∧ Kept [] w w' := by
  have HC : Hid (∀ (k : Nat), k < vs.length → ∃ ao cap L, vs[k]? = some (.slice ao L.length cap) ∧ Ls[k]? = some L ∧ ∀ W, Kept [] w W → W.cell? ⟨g, k, none⟩ = some (.slice ao L.length cap) ∧ StampsAt W (.slice ao L.length cap) L) := fun k hk => by
    obtain ⟨L, h1, h2⟩ := hv k vs[k] (List.getElem?_eq_getElem hk)
    have h3 := hc k vs[k] (List.getElem?_eq_getElem hk)
    obtain ⟨ao, cap, e, _⟩ := id h2
    rw [List.length_map] at e
    refine ⟨ao, cap, L, by rw [List.getElem?_eq_getElem hk, e], h1, fun W k => ⟨?_, ?_⟩⟩
    · rw [← e]; exact k.cell h3 (by simp)
    · rw [← e]; exact h2.kept k
  obtain ⟨n, hnn⟩ : ∃ n, n = vs.length := ⟨_, rfl⟩
  rw [← hnn] at hn2 hl HC ⊢
  clear hc hv hnn
  go_enter Try.func10, Try.ntmps10
  go_wp2
  go_loopw [3, 11] (fun s3 s11 wr => ∃ k : Nat, k ≤ n ∧ s3 = .int .i64 ((Ls.take k).flatten.length : Nat) ∧ s11 = .int .i64 k ∧ Hid (wr = w)) (fun _ s11 _ => n - (intOf s11).toNat)
  case atStart => exact ⟨0, Nat.zero_le _, rfl, rfl, rfl⟩
  case round =>
    obtain ⟨k, hk, rfl, rfl, HI⟩ := hrel
    by_cases hlt : k < n
    · have i0 : (k : Int) < (n : Int) := by omega
      have i1 : (0 : Int) ≤ (k : Int) := by omega
      have t0 : decide ((k : Int) < (n : Int)) = true := decide_eq_true i0
      obtain ⟨ao, cap, L, hvk, hL, hW⟩ := HC.out k hlt
      have hcell := (hW wr (by rw [HI.out]; exact Kept.refl _ _)).1
      have hs : (Ls.take (k + 1)).flatten.length = (Ls.take k).flatten.length + L.length := by rw [flat_take hL, List.length_append]
      have hle := flat_take_le Ls (k + 1)
      obtain ⟨m, hm⟩ : ∃ m, m = (Ls.take k).flatten.length := ⟨_, rfl⟩
      rw [← hm] at hs ⊢
      have wr1 : IntKind.i64.wrap ((m : Int) + (L.length : Int)) = (m : Int) + (L.length : Int) := by rw [IntKind.wrap_i64]; omega
      have t3 : decide ((m : Int) + (L.length : Int) < 0) = false := decide_eq_false (by omega)
      have t3' : ¬ ((m : Int) + (L.length : Int) < 0) := by omega
      have HS : Hid ((Ls.take (k + 1)).flatten.length = m + L.length) := hs
      clear hvk hL hW hs hm
      generalize L.length = l at *
      go_wp2
      go_roundw
      case rel => exact ⟨k + 1, by omega, by rw [HS.out]; go_num, by go_num, HI⟩
      case measure => simp [intOf]; omega
    · have t0 : decide ((k : Int) < (n : Int)) = false := decide_eq_false (by omega)
      have t0' : ¬ ((k : Int) < (n : Int)) := by omega
      have hfl : (Ls.take k).flatten = Ls.flatten := by rw [List.take_of_length_le (by omega)]
      rw [hfl]
      have HI2 := HI
      have hgr : ∀ W, Calls Try.prog 17 #[.slice none 0 0, .int .i64 (Ls.flatten.length : Nat)] W fun e w' => ∃ v', e = .returned v' ∧ StampOwn w' W.heap.size v' [] ∧ Kept [] W w' := fun W => Grow_any _ (by omega) W
      clear hfl
      generalize hT : Ls.flatten.length = total at *
      go_wp2_with (go_at_call 17; refine (hgr _).mono ?_; rintro e w7 ⟨v7, rfl, ho7, hk7⟩; have HO7 : Hid (StampOwn w7 w.heap.size v7 [] ∧ Kept [] w w7) := (by rw [← HI2.out]; exact ⟨ho7, hk7⟩); clear ho7 hk7)
      clear HI
      go_loopw [6, 27] (fun s6 s27 wr => ∃ k : Nat, k ≤ n ∧ s27 = .int .i64 k ∧ Hid (StampOwn wr w.heap.size s6 (Ls.take k).flatten ∧ Kept [] w wr)) (fun _ s27 _ => n - (intOf s27).toNat)
      case atStart => exact ⟨0, Nat.zero_le _, rfl, HO7.out.1, HO7.out.2⟩
      case round =>
        obtain ⟨k, hk, rfl, HI⟩ := hrel
        by_cases hlt : k < n
        · have i0 : (k : Int) < (n : Int) := by omega
          have i1 : (0 : Int) ≤ (k : Int) := by omega
          have t0 : decide ((k : Int) < (n : Int)) = true := decide_eq_true i0
          obtain ⟨ao, cap, L, hvk, hL, hW⟩ := HC.out k hlt
          have hcell := (hW wr HI.out.2).1
          have HST : Hid (StampsAt wr (.slice ao L.length cap) L) := (hW wr HI.out.2).2
          have HFL : Hid ((Ls.take (k + 1)).flatten = (Ls.take k).flatten ++ L) := flat_take hL
          have hle := flat_take_le Ls (k + 1)
          rw [HFL.out, List.length_append, hT] at hle
          have HO : Hid (wr.ownsRow w.heap.size 32 34 u6 (Ls.take k).flatten.length ((Ls.take k).flatten.map StampE.row).flatten) := HI.out.1
          clear hvk hL hW
          go_wp2_with (refine wpList_append_rows (by rfl) (.tmp 31) (.tmp 32) 22 32 (.agg zeroS.row.toArray) 34 56 Try.underlying22 Try.zeroStampI (by show zeroS.row.toArray.size = 34; rw [List.size_toArray, zeroS.row_len]) (by decide) (by rfl) (by rfl) HO.out (by rfl) HST.out srows_len srows_one (by rw [List.length_map]; omega) (by decide) HI.out.2.size ?_
                       intro v9 w9 h9 k9
                       have HN : Hid (StampOwn w9 w.heap.size v9 (Ls.take (k + 1)).flatten ∧ Kept [] w w9) := (by
                         refine ⟨?_, HI.out.2.trans k9 (fun y hy => Or.inr (World.ownsRow.lt HO.out y (by simpa using hy)).1)⟩
                         unfold StampOwn
                         rw [HFL.out, List.length_append, List.map_append, List.flatten_append]
                         rw [List.length_map] at h9
                         exact h9)
                       clear h9 k9)
          go_roundw
          case rel => exact ⟨k + 1, by omega, by go_num, HN.out.1, HN.out.2⟩
          case measure => simp [intOf]; omega
        · have t0 : decide ((k : Int) < (n : Int)) = false := decide_eq_false (by omega)
          have t0' : ¬ ((k : Int) < (n : Int)) := by omega
          have HF : Hid ((Ls.take k).flatten = Ls.flatten) := by
            have h : (Ls.take k).flatten = Ls.flatten := by rw [List.take_of_length_le (by omega)]
            exact h
          go_wp2
          go_ret
          exact ⟨_, rfl, by rw [← HF.out]; exact HI.out.1, HI.out.2⟩
end Go.Proofs.Ytmjbaficdoehfaa
