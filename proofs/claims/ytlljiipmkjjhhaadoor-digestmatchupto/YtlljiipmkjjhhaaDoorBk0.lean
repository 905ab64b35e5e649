/-
  WALK: satchelref0.CmpID: which of two ids is first.
  The shape of a row of bytes of one's own.
  Lists that are lent with marks behind them: satchellaw1.Lend and Intact.
  What was lent is written to.
  THE BOOK of satchellaw1: its marks; WALKS: at, tight.
-/
import Derived.Test.YtlljiipmkjjhhaaDoorCmpZ
import Derived.Test.YtlljiipmkjjhhaaDoorCmpO
import Derived.Test.YtlljiipmkjjhhaaDoorSha1
import Derived.Test.YtlljiipmkjjhhaaDoorQuiet
import Derived.Test.YtlljiipmkjjhhaaDoorRwsA
import Derived.Laws.AppendOwnNone
import Derived.Maps.AppendAt
import Derived.Test.YtlljiipmkjjhhaaDoorPlain2
namespace Go.Proofs.YtlljiipmkjjhhaaDoor
open Go.RowKit

theorem cmpZ_cmpB : ∀ xs ys : List Int, cmpZ xs ys = cmpB xs ys
  | [], [] => rfl
  | [], _ :: _ => rfl
  | _ :: _, [] => rfl
  | a :: x, b :: y => by
    unfold cmpZ cmpB
    rw [cmpZ_cmpB x y]
set_option maxRecDepth 100000 in
set_option maxHeartbeats 2000000 in
theorem CmpID_any (xs ys : List Int) (w : World) (hx : GoodID xs) (hy : GoodID ys) : Calls Tryd.prog 13 #[.agg (idC xs), .agg (idC ys)] w fun e w' => e = .returned (.int .i64 (cmpZ xs ys)) ∧ Kept [] w w' := by
  obtain ⟨W1, hW1⟩ : ∃ W1, W1 = w.alloc (.cells (idC xs) 24) := ⟨_, rfl⟩
  obtain ⟨W2, hW2⟩ : ∃ W2, W2 = W1.alloc (.cells (idC ys) 24) := ⟨_, rfl⟩
  have HW1 : Hid (W1 = w.alloc (.cells (idC xs) 24)) := hW1
  have HW2 : Hid (W2 = W1.alloc (.cells (idC ys) 24)) := hW2
  have k1 : Kept [] w W1 := by rw [hW1]; exact (Kept.refl _ _).alloc _
  have k2 : Kept [] W1 W2 := by rw [hW2]; exact (Kept.refl _ _).alloc _
  have HK : Hid (Kept [] w W2) := k1.then k2
  have b1 : BytesAt W2 (.slice (some ⟨w.heap.size, 0, none⟩) 32 32) xs := by
    have h := BytesAt.row (w := W2) (g := w.heap.size) (ys := xs) (zs := []) (t := 24) (by rw [List.append_nil]; exact k2.heap (by rw [hW1]; exact heap_alloc_new w _) (by simp)) 32 (by rw [hx.1]; decide)
    rwa [hx.1] at h
  have hs1 : W1.heap.size = w.heap.size + 1 := by rw [hW1]; exact World.size_alloc _ _
  have b2 : BytesAt W2 (.slice (some ⟨w.heap.size + 1, 0, none⟩) 32 32) ys := by
    have h := BytesAt.row (w := W2) (g := W1.heap.size) (ys := ys) (zs := []) (t := 24) (by rw [List.append_nil, hW2]; exact heap_alloc_new W1 _) 32 (by rw [hy.1]; decide)
    rwa [hy.1, hs1] at h
  obtain ⟨r, hr⟩ : ∃ r, r = cmpZ xs ys := ⟨_, rfl⟩
  have HCM : Hid (∀ W, Kept [] W2 W → Calls Tryd.prog 26 #[.slice (some ⟨w.heap.size, 0, none⟩) 32 32, .slice (some ⟨w.heap.size + 1, 0, none⟩) 32 32] W fun e w' => e = .returned (.int .i64 r) ∧ Kept [] W2 w') := fun W q => by
    rw [hr]
    refine (CmpZ_any (b1.kept' q (fun _ _ _ => by simp)) (b2.kept' q (fun _ _ _ => by simp)) (by rw [hx.1]; decide) (by rw [hy.1]; decide)).mono ?_
    rintro e w' ⟨h1, m, h2⟩
    exact ⟨h1, by rw [h2]; exact q.drewN m⟩
  have hz1 : (idC xs).size = 32 := idC_size hx.1
  have hz2 : (idC ys).size = 32 := idC_size hy.1
  rw [← hr]
  clear hx hy k1 k2 b1 b2 hr hW1 hW2 hs1
  go_enter Tryd.func13, Tryd.ntmps13
  go_wp2_with fail
  rw [← HW1.out, ← HW2.out]
  refine region_quiet (Kept [] W2) (by kernel_rfl) (by kernel_rfl) (Kept.refl [] W2).drew ?_
  refine quiet_val (by rfl) (.slice (some ⟨w.heap.size, 0, none⟩) 32 32) (fun W => by go_simp) ?_
  simp only [Act.put, List.setIfInBounds_toArray, List.set_cons_zero, List.set_cons_succ]
  refine quiet_val (by rfl) (.slice (some ⟨w.heap.size + 1, 0, none⟩) 32 32) (fun W => by go_simp) ?_
  simp only [Act.put, List.setIfInBounds_toArray, List.set_cons_zero, List.set_cons_succ]
  refine quiet_call (by rfl) 26 _ (.int .i64 r) (fun W => by go_simp) HCM.out ?_
  simp only [Act.put, List.setIfInBounds_toArray, List.set_cons_zero, List.set_cons_succ]
  refine quiet_assign (by rfl) (.tmp 7) rfl (.int .i64 r) rfl ?_
  simp only [Act.put, List.setIfInBounds_toArray, List.set_cons_zero, List.set_cons_succ]
  refine wpQuiet_nil fun w3 hk3 => ?_
  have HK3 : Hid (Kept [] w w3) := HK.out.then hk3
  clear hk3
  go_wp2
  go_ret
  exact ⟨rfl, HK3.out⟩
end Go.Proofs.YtlljiipmkjjhhaaDoor

namespace Go.Proofs.YtlljiipmkjjhhaaDoor
open Go.RowKit

theorem row_shape {w : World} {B n : Nat} {v : Value} {xs : List Value} (h : w.ownsRow B 5 1 v n xs) (hn : 0 < n) :
    ∃ g cap, v = .slice (some ⟨g, 0, none⟩) n cap ∧ B ≤ g ∧ g < w.heap.size ∧ n ≤ cap ∧ cap ≤ 9223372036854775807 := by
  rcases h.2 with ⟨_, h0⟩ | ⟨g, cap', cur, hv, hg, hh, hnc, hcm, hcs, htk⟩
  · omega
  · exact ⟨g, cap', hv, hg, lt_of_block hh, hnc, hcm⟩
end Go.Proofs.YtlljiipmkjjhhaaDoor

namespace Go.Proofs.YtlljiipmkjjhhaaDoor
open Go.RowKit

/-- The bytes ys lie at the beginning of the block g, with the three marks behind them, in memory of one's own. -/
def Lent (w : World) (B g cap : Nat) (ys : List Int) : Prop := OwnB w B (.slice (some ⟨g, 0, none⟩) (ys.length + 3) cap) (ys ++ [165, 90, 165])

theorem Lent.kept {w w' : World} {B g cap : Nat} {ys : List Int} {T : List Nat} (h : Lent w B g cap ys) (k : Kept T w w') (hd : g ∉ T) : Lent w' B g cap ys :=
  OwnB.kept h k (fun x hx => by cases hx; exact hd)
theorem Lent.cell {w : World} {B g cap : Nat} {ys : List Int} (h : Lent w B g cap ys) (j : Nat) (hj : j < ys.length + 3) : w.cell? ⟨g, j, none⟩ = some (.int .u8 ((ys ++ [165, 90, 165])[j]?.getD 0)) := by
  unfold Lent OwnB at h
  rw [List.length_append] at h
  rw [World.ownsRow.cellAt h j (by simpa using hj)]
  have hj' : j < (ys ++ [165, 90, 165]).length := by simpa using hj
  rw [List.getElem?_map, List.getElem?_eq_getElem hj']
  rfl
theorem Lent.room {w : World} {B g cap : Nat} {ys : List Int} (h : Lent w B g cap ys) : ys.length + 3 ≤ cap ∧ cap ≤ 9223372036854775807 ∧ B ≤ g ∧ g < w.heap.size := by
  obtain ⟨g', cap', hv, h1, h2, h3, h4⟩ := row_shape h (by simp)
  rw [List.length_append] at hv h3
  injection hv with a1 a2 a3
  injection a1 with a1
  injection a1 with a1
  subst a1 a3
  exact ⟨h3, h4, h1, h2⟩
theorem Lent.bytes {w : World} {B g cap : Nat} {ys : List Int} (h : Lent w B g cap ys) : BytesAt w (.slice (some ⟨g, 0, none⟩) ys.length cap) ys := by
  refine ⟨_, cap, rfl, by have := h.room; omega, fun e => by simp at e, fun _ => ⟨g, 0, rfl, fun i u hu => ?_⟩⟩
  have hi : i < ys.length := (List.getElem?_eq_some_iff.1 hu).1
  rw [Nat.zero_add, h.cell i (by omega), List.getElem?_append_left hi, hu]
  rfl

end Go.Proofs.YtlljiipmkjjhhaaDoor

namespace Go.Proofs.YtlljiipmkjjhhaaDoor
open Go.RowKit

theorem Lent.set {w : World} {B g cap : Nat} {ys : List Int} (h : Lent w B g cap ys) (j : Nat) (hj : j < ys.length) (u : Int) : Lent (w.setCell ⟨g, j, none⟩ (.int .u8 u)) B g cap (ys.set j u) := by
  unfold Lent OwnB at *
  rw [List.length_append] at *
  have h1 := (World.ownsRow.stored h j (.int .u8 u)).1
  rw [List.length_set]
  have e : ((ys ++ [165, 90, 165]).map (Value.int .u8)).set j (.int .u8 u) = (ys.set j u ++ [165, 90, 165]).map (Value.int .u8) := by
    rw [← List.map_set, List.set_append_left _ _ hj]
  rw [e] at h1
  exact h1
theorem Lent.frozen {w : World} {B g cap : Nat} {ys : List Int} (h : Lent w B g cap ys) (j : Nat) : w.frozen? ⟨g, j, none⟩ = false := by
  unfold Lent OwnB at h
  rw [List.length_append] at h
  exact World.ownsRow.frozenAt h j

end Go.Proofs.YtlljiipmkjjhhaaDoor

namespace Go.Proofs.YtlljiipmkjjhhaaDoor
open Go.RowKit

/-- Byte k of the mark n. -/
def atM (n : Int) (k : Nat) : Int := if (k : Int) % 2 = 0 then 1 + n % 251 else 1 + (7 * n + n / 251) % 251
theorem atM_oct (n : Int) (k : Nat) : 0 ≤ atM n k ∧ atM n k ≤ 255 := by
  unfold atM
  split <;> omega
/-- The first k bytes of a mark. -/
def marks (n : Int) (k : Nat) : List Int := (List.range k).map (atM n)
theorem marks_len (n : Int) (k : Nat) : (marks n k).length = k := by simp [marks]
theorem marks_get (n : Int) (k i : Nat) (h : i < k) : (marks n k)[i]? = some (atM n i) := by simp [marks, h]
set_option maxHeartbeats 1000000 in
theorem at_any (n : Int) (h0 : 0 ≤ n) (h1 : n ≤ 1000000000) (k : Nat) (w : World) :
    Calls Tryd.prog 39 #[.int .i64 n, .int .i64 k] w fun e w' => e = .returned (.int .u8 (atM n k)) ∧ w' = w := by
  have hk : (0 : Int) ≤ k := by omega
  by_cases he : (k : Int) % 2 = 0
  · have HA : Hid (atM n k = 1 + n % 251) := by
      have e : atM n k = 1 + n % 251 := by unfold atM; rw [if_pos he]
      exact e
    have e1 : ((k : Int) % 2 == 0) = true := by simpa using he
    have w1 : IntKind.i64.wrap (1 + n % 251) = 1 + n % 251 := by rw [IntKind.wrap_i64]; omega
    have w2 : (1 + n % 251) % 256 = 1 + n % 251 := by omega
    clear he
    go_enter Tryd.func39, Tryd.ntmps39
    go_wp2
    go_ret
    exact ⟨by rw [HA.out]; exact rfl, rfl⟩
  · have HA : Hid (atM n k = 1 + (7 * n + n / 251) % 251) := by
      have e : atM n k = 1 + (7 * n + n / 251) % 251 := by unfold atM; rw [if_neg he]
      exact e
    have e1 : ((k : Int) % 2 == 0) = false := by simpa using he
    have p1 : 0 ≤ 7 * n + n / 251 := by omega
    have v1 : IntKind.i64.wrap (7 * n) = 7 * n := by rw [IntKind.wrap_i64]; omega
    have v2 : IntKind.i64.wrap (7 * n + n / 251) = 7 * n + n / 251 := by rw [IntKind.wrap_i64]; omega
    have w1 : IntKind.i64.wrap (1 + (7 * n + n / 251) % 251) = 1 + (7 * n + n / 251) % 251 := by rw [IntKind.wrap_i64]; omega
    have w2 : (1 + (7 * n + n / 251) % 251) % 256 = 1 + (7 * n + n / 251) % 251 := by omega
    clear he
    go_enter Tryd.func39, Tryd.ntmps39
    go_wp2
    go_ret
    exact ⟨by rw [HA.out]; exact rfl, rfl⟩
end Go.Proofs.YtlljiipmkjjhhaaDoor
