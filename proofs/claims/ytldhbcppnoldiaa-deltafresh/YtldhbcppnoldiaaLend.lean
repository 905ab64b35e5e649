/-
  Lists that are lent with marks behind them: satchellaw1.Lend and Intact.
-/
import Derived.Test.YtldhbcppnoldiaaConv
import Derived.Laws.AppendOwnNone
namespace Go.Proofs.Ytldhbcppnoldiaa
open Go.RowKit

/-- The bytes ys lie at the beginning of the block g, with the three marks behind them, in memory of one's own. -/
def Lent (w : World) (B g cap : Nat) (ys : List Int) : Prop := OwnB w B (.slice (some ⟨g, 0, none⟩) (ys.length + 3) cap) (ys ++ [165, 90, 165])

theorem Lent.kept {w w' : World} {B g cap : Nat} {ys : List Int} {T : List Nat} (h : Lent w B g cap ys) (k : Kept T w w') (hd : g ∉ T) : Lent w' B g cap ys :=
  OwnB.kept h k (fun x hx => by cases hx; exact hd)
theorem Lent.cell {w : World} {B g cap : Nat} {ys : List Int} (h : Lent w B g cap ys) (j : Nat) (hj : j < ys.length + 3) : w.cell? ⟨g, j, none⟩ = some (.int .u8 ((ys ++ [165, 90, 165])[j]?.getD 0)) := by
  unfold Lent OwnB at h
  rw [List.length_append] at h
  rw [World.ownsRow.cellAt h j (by simpa using hj)]
  have hj' : j < (ys ++ [165, 90, 165]).length := by simpa using hj
  rw [List.getElem?_map, List.getElem?_eq_getElem hj']
  rfl
theorem row_shape {w : World} {B n : Nat} {v : Value} {xs : List Value} (h : w.ownsRow B 5 1 v n xs) (hn : 0 < n) :
    ∃ g cap, v = .slice (some ⟨g, 0, none⟩) n cap ∧ B ≤ g ∧ g < w.heap.size ∧ n ≤ cap ∧ cap ≤ 9223372036854775807 := by
  rcases h.2 with ⟨_, h0⟩ | ⟨g, cap', cur, hv, hg, hh, hnc, hcm, hcs, htk⟩
  · omega
  · exact ⟨g, cap', hv, hg, lt_of_block hh, hnc, hcm⟩
theorem Lent.room {w : World} {B g cap : Nat} {ys : List Int} (h : Lent w B g cap ys) : ys.length + 3 ≤ cap ∧ cap ≤ 9223372036854775807 ∧ B ≤ g ∧ g < w.heap.size := by
  obtain ⟨g', cap', hv, h1, h2, h3, h4⟩ := row_shape h (by simp)
  rw [List.length_append] at hv h3
  injection hv with a1 a2 a3
  injection a1 with a1
  injection a1 with a1
  subst a1 a3
  exact ⟨h3, h4, h1, h2⟩
theorem Lent.bytes {w : World} {B g cap : Nat} {ys : List Int} (h : Lent w B g cap ys) : BytesAt w (.slice (some ⟨g, 0, none⟩) ys.length cap) ys := by
  refine ⟨_, cap, rfl, by have := h.room; omega, fun e => by simp at e, fun _ => ⟨g, 0, rfl, fun i u hu => ?_⟩⟩
  have hi : i < ys.length := (List.getElem?_eq_some_iff.1 hu).1
  rw [Nat.zero_add, h.cell i (by omega), List.getElem?_append_left hi, hu]
  rfl

theorem three_new (W : World) : ∀ j u, [Value.int .u8 165, .int .u8 90, .int .u8 165][j]? = some u → (W.alloc (.cells #[.int .u8 165, .int .u8 90, .int .u8 165] 5)).cell? ((⟨W.heap.size, 0, none⟩ : Addr).add j) = some u := by
  intro j u hj
  rw [Addr.add_mid, Nat.zero_add, cell_of_row _ _ _ _ _ _ (heap_alloc_new W _), ← Array.getElem?_toList]
  exact hj

set_option maxHeartbeats 1000000 in
theorem Lend_any (v : Value) (ys : List Int) (w : World) (h : BytesAt w v ys) (hm : ys.length ≤ 140737488351232) :
    Calls Try.prog 21 #[v] w fun e w' => ∃ g cap, e = .returned (.slice (some ⟨g, 0, none⟩) ys.length cap) ∧ Lent w' w.heap.size g cap ys ∧ Kept [] w w' := by
  obtain ⟨i0, hi, hz0, hz1, hz2⟩ := info_parts Try.info_u8
  have hown0 : w.ownsRow w.heap.size 5 1 (.slice none 0 0) 0 [] := World.ownsRow_nil w _ _ _
  have hmx : maxLen = 9223372036854775807 := rfl
  obtain ⟨ao, cap, rfl, hc, hnil, hcell⟩ := h
  cases ao with
  | none =>
    obtain rfl : ys = [] := by
      by_cases hy : ys = []
      · exact hy
      · obtain ⟨b, off, hb, _⟩ := hcell hy; cases hb
    obtain rfl := hnil rfl
    clear hcell hnil
    have hown1 : (w.alloc (.cells #[.int .u8 165, .int .u8 90, .int .u8 165] 5)).ownsRow w.heap.size 5 1 (.slice none 0 0) 0 [] := World.ownsRow_nil _ _ _ _
    go_enter Try.func21, Try.ntmps21
    go_wp2_with (first
      | (at_builtin; refine wpList_append_own_none rfl (.tmp 4) (.tmp 5) 22 rfl w.heap.size 5 i0 1 Try.underlying22 hi (.slice none 0 0) 0 [] rfl hown0 rfl ?_)
      | (at_builtin; refine wpList_append_own_at _ rfl (.tmp 7) (.tmp 8) 22 rfl w.heap.size 5 i0 (.int .u8 0) 1 1 Try.underlying22 hi hz0 hz1 hz2 rfl (by decide) (.slice none 0 0) 0 [] rfl hown1 ⟨w.heap.size, 0, none⟩ 3 3 [.int .u8 165, .int .u8 90, .int .u8 165] rfl rfl (three_new w) (by simp [Value.oneCell']) (by omega) (by omega) (by simp) ?_; intro v' w2 ho' hgr hnl hat
         obtain ⟨g, cap, rfl, hg, hlt, hcap1, hcap2⟩ := row_shape ho' (by omega)
         have HO : Hid _ := ho'
         clear ho' hnl hat))
    go_ret
    exact ⟨g, cap, rfl, HO.out, (((Kept.refl [] w).alloc _).grown hgr (fun k hk => by cases hk))⟩
  | some a =>
    have hnews : ∀ j u, (ys.map (Value.int .u8))[j]? = some u → w.cell? (a.add j) = some u := by
      intro j u hu
      simp only [List.getElem?_map, Option.map_eq_some_iff] at hu
      obtain ⟨z, hz, rfl⟩ := hu
      obtain ⟨b, off, hb, hh⟩ := hcell (by rintro rfl; simp at hz)
      cases hb
      rw [Addr.add_mid]
      exact hh j z hz
    clear hcell hnil
    obtain ⟨cs, hcs⟩ : ∃ cs, cs = ys.map (Value.int .u8) := ⟨_, rfl⟩
    rw [← hcs] at hnews
    have hcl : cs.length = ys.length * 1 := by rw [hcs]; simp
    have hco : ∀ u ∈ cs, u.oneCell' = true := by rw [hcs]; exact map_oneCell _
    have HC : Hid (cs = ys.map (Value.int .u8)) := hcs
    clear hcs
    go_enter Try.func21, Try.ntmps21
    go_wp2_with (first
      | (at_builtin; refine wpList_append_own_at _ rfl (.tmp 4) (.tmp 5) 22 rfl w.heap.size 5 i0 (.int .u8 0) 1 1 Try.underlying22 hi hz0 hz1 hz2 rfl (by decide) (.slice none 0 0) 0 [] rfl hown0 a ys.length cap cs rfl hcl hnews hco (by omega) (by omega) (Nat.le_refl _) ?_; intro v1 w1 ho1 hgr1 hnl1 hat1
         have hk1 : Kept [] w w1 := (Kept.refl [] w).grown hgr1 (fun k hk => by cases hk)
         have HB : Hid (∀ k, v1.ownBlock = some k → w.heap.size ≤ k) := fun k hk => (ho1.lt k hk).1
         have hsz1 := hk1.size
         have ho1' := ho1.alloc (.cells #[.int .u8 165, .int .u8 90, .int .u8 165] 5)
         clear ho1 hgr1 hnl1 hat1)
      | (at_builtin; refine wpList_append_own_at _ rfl (.tmp 7) (.tmp 8) 22 rfl w.heap.size 5 i0 (.int .u8 0) 1 1 Try.underlying22 hi hz0 hz1 hz2 rfl (by decide) v1 (0 + ys.length) ([] ++ cs) rfl ho1' ⟨w1.heap.size, 0, none⟩ 3 3 [.int .u8 165, .int .u8 90, .int .u8 165] rfl rfl (three_new w1) (by simp [Value.oneCell']) (by omega) (by omega) (by simp; omega) ?_; intro v' w2 ho' hgr hnl hat
         obtain ⟨g, cap', rfl, hg, hlt, hcap1, hcap2⟩ := row_shape ho' (by omega)
         have HO : Hid _ := ho'
         have HG : Hid _ := hgr
         clear ho' hnl hat ho1' hgr))
    go_ret
    refine ⟨g, cap', rfl, ?_, (hk1.alloc _).grown HG.out (fun k hk => Or.inr (HB.out k hk))⟩
    have ho := HO.out
    rw [HC.out, List.nil_append, Nat.zero_add] at ho
    unfold Lent OwnB
    rw [List.length_append, List.map_append]
    exact ho

set_option maxHeartbeats 2000000 in
/-- What is lent is still so: said of the right bytes. -/
theorem Intact_any {w : World} {B g cap : Nat} {ys : List Int} {v : Value} (h : Lent w B g cap ys) (hv : BytesAt w v ys) (hm : ys.length ≤ 140737488351232) :
    Calls Try.prog 27 #[.slice (some ⟨g, 0, none⟩) ys.length cap, v] w fun e w' => e = .returned (.bool true) ∧ w' = w := by
  have c1 := h.bytes.conv
  have c2 := hv.conv
  have d0 := h.cell ys.length (by omega)
  have d1 := h.cell (ys.length + 1) (by omega)
  have d2 := h.cell (ys.length + 2) (by omega)
  obtain ⟨r1, r2, r3, r4⟩ := h.room
  rw [List.getElem?_append_right (by omega)] at d0 d1 d2
  simp at d0 d1 d2
  clear h hv
  go_enter Try.func27, Try.ntmps27
  go_wp2
  go_ret
  exact ⟨rfl, rfl⟩
end Go.Proofs.Ytldhbcppnoldiaa
