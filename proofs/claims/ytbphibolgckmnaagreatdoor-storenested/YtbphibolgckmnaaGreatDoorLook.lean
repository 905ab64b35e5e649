/-
  WALKS: code.lookFixed, lookVar, lookRaw, lookBytes and look, for every slice of bytes.
-/
import Derived.Test.YtbphibolgckmnaaGreatDoorLookFixed
import Derived.Test.YtbphibolgckmnaaGreatDoorLookVar
namespace Go.Proofs.YtbphibolgckmnaaGreatDoor
open Go.RowKit

theorem lookVar_any (v : Value) (ys : List Int) (most : Int) (w : World) (h : BytesAt w v ys) (hm : ys.length ≤ 140737488355328) (ho : Octs ys) (x : Fnd) (hx : Hid (x = varL ys most)) :
    Calls Tryz.prog 109 #[v, .int .u64 most] w fun e w' =>
      e = .returned (.tuple #[.agg #[.int .u64 x.n, .int .i64 x.frm, .int .i64 x.to], .int .i64 x.f]) ∧ Kept [] w w' := by
  rcases h.parts with ⟨rfl, ao, cap, rfl⟩ | ⟨b, off, cap, rfl, hc, h0, hcell⟩
  · rw [hx.out]; exact lookVar_empty ao cap most w
  · exact lookVar_some b off cap ys most w hm ho hcell x hx

theorem lookFixed_any (v : Value) (ys : List Int) (size : Nat) (w : World) (h : BytesAt w v ys) (hm : ys.length ≤ 140737488355328) (ho : Octs ys) (hs0 : 1 ≤ size) (hs : size ≤ 8) (x : Fnd) (hx : Hid (x = fixedL ys size)) :
    Calls Tryz.prog 108 #[v, .int .i64 size] w fun e w' =>
      e = .returned (.tuple #[.agg #[.int .u64 x.n, .int .i64 x.frm, .int .i64 x.to], .int .i64 x.f]) ∧ Kept [] w w' := by
  by_cases hl : ys.length < size
  · obtain ⟨ao, cap, rfl, _⟩ := h
    have e : x = ⟨0, 0, 0, 1⟩ := by rw [hx.out]; simp [fixedL, hl]
    rw [e]; exact lookFixed_no ao ys.length cap size w hl
  · have e : x = ⟨be (ys.take size), size, size, 0⟩ := by rw [hx.out]; simp [fixedL, hl]
    rw [e]
    rcases h.parts with ⟨rfl, ao, cap, rfl⟩ | ⟨b, off, cap, rfl, hc, h0, hcell⟩
    · simp at hl; omega
    · exact lookFixed_yes b off cap ys size w hs0 hs (by omega) hm ho hcell

set_option maxHeartbeats 400000 in
theorem lookRaw_any (v : Value) (ys : List Int) (size : Int) (w : World) (h : BytesAt w v ys) (hs : size ≤ 9223372036854775807) (x : Fnd) (hx : Hid (x = rawL ys size)) :
    Calls Tryz.prog 111 #[v, .int .i64 size] w fun e w' =>
      e = .returned (.tuple #[.agg #[.int .u64 x.n, .int .i64 x.frm, .int .i64 x.to], .int .i64 x.f]) ∧ Kept [] w w' := by
  obtain ⟨ao, cap, rfl, _⟩ := h
  by_cases h0 : size < 0
  · have EX : Hid (x = ⟨0, 0, 0, 4⟩) := by rw [hx.out]; exact if_pos h0
    go_enter Tryz.func111, Tryz.ntmps111
    go_wp2
    exact bodyPost_ret (v := .tuple #[.agg #[.int .u64 0, .int .i64 0, .int .i64 0], .int .i64 4]) (by simp [results, Tryz.results111, go_sem]) rfl ⟨by rw [EX.out]; rfl, (Kept.refl _ _).alloc _⟩
  · by_cases h1 : (ys.length : Int) < size
    · have EX : Hid (x = ⟨0, 0, 0, 1⟩) := by rw [hx.out]; exact (if_neg h0).trans (if_pos h1)
      go_enter Tryz.func111, Tryz.ntmps111
      go_wp2
      exact bodyPost_ret (v := .tuple #[.agg #[.int .u64 0, .int .i64 0, .int .i64 0], .int .i64 1]) (by simp [results, Tryz.results111, go_sem]) rfl ⟨by rw [EX.out]; rfl, (Kept.refl _ _).alloc _⟩
    · have EX : Hid (x = ⟨0, 0, size.toNat, 0⟩) := by rw [hx.out]; exact (if_neg h0).trans (if_neg h1)
      have ES : Hid ((size.toNat : Int) = size) := by show _ = _; omega
      go_enter Tryz.func111, Tryz.ntmps111
      go_wp2
      exact bodyPost_ret (v := .tuple #[.agg #[.int .u64 0, .int .i64 0, .int .i64 size], .int .i64 0]) (by simp [results, Tryz.results111, go_sem]) rfl ⟨by rw [EX.out]; simp only [ES.out]; rfl, (Kept.refl _ _).alloc _⟩

set_option maxHeartbeats 1000000 in
theorem lookBytes_any (v : Value) (ys : List Int) (most : Int) (w : World) (h : BytesAt w v ys) (hm : ys.length ≤ 140737488355328) (ho : Octs ys) (x : Fnd) (hx : Hid (x = bytesL ys most)) :
    Calls Tryz.prog 110 #[v, .int .u64 most] w fun e w' =>
      e = .returned (.tuple #[.agg #[.int .u64 x.n, .int .i64 x.frm, .int .i64 x.to], .int .i64 x.f]) ∧ Kept [] w w' := by
  obtain ⟨y, hy⟩ : ∃ y, y = varL ys most := ⟨_, rfl⟩
  have hg := varL_good ys most ho
  have hb := h.kept ((Kept.refl [] w).alloc (.cells #[.int .u64 0, .int .i64 0, .int .i64 0] 161)) (fun _ _ => by simp)
  have hcall := lookVar_any v ys most _ hb hm ho y hy
  have hxy : x = if y.f ≠ 0 then ⟨0, 0, 0, y.f⟩ else if (ys.length : Int) - y.to < y.n then ⟨0, 0, 0, 1⟩ else ⟨y.n, y.frm, y.to + y.n.toNat, 0⟩ := by rw [hx.out, hy]; rfl
  rw [← hy] at hg
  obtain ⟨g1, g2, g3, g4, g5, g6, g7⟩ := hg
  obtain ⟨yn, yfrm, yto, yf⟩ := y
  dsimp only at g1 g2 g3 g4 g5 g6 g7 hcall hxy
  obtain ⟨ao, cap, rfl, _⟩ := h
  clear hx hy hb
  have KF : ∀ w1 o a b c, Kept [] (w.alloc (.cells #[.int .u64 0, .int .i64 0, .int .i64 0] 161)) w1 →
      Kept [] w ((((w1.setCell ⟨w.heap.size, 0, none⟩ a).setCell ⟨w.heap.size, 1, none⟩ b).setCell ⟨w.heap.size, 2, none⟩ c).alloc o) := fun w1 o a b c hk =>
    ((((((Kept.refl [] w).alloc (.cells #[.int .u64 0, .int .i64 0, .int .i64 0] 161)).then hk).setCell (Or.inr (Nat.le_refl _)) _).setCell (Or.inr (Nat.le_refl _)) _).setCell (Or.inr (Nat.le_refl _)) _).alloc _
  by_cases hf : yf = 0
  · subst hf
    by_cases hn : (ys.length : Int) - yto < yn
    · rw [if_neg (by decide), if_pos hn] at hxy
      have EX : Hid (x = ⟨0, 0, 0, 1⟩) := hxy
      clear hxy g2 g6 g7
      go_enter Tryz.func110, Tryz.ntmps110
      go_wp2_with (go_at_call 109; refine hcall.mono ?_; rintro e w1 ⟨rfl, hk⟩; obtain ⟨z1, z2, z3⟩ := hk.last)
      exact bodyPost_ret (v := .tuple #[.agg #[.int .u64 0, .int .i64 0, .int .i64 0], .int .i64 1]) (by simp [results, Tryz.results110, go_sem, z1, z2]) rfl ⟨by rw [EX.out]; rfl, KF _ _ _ _ _ hk⟩
    · rw [if_neg (by decide), if_neg hn] at hxy
      have EX : Hid (x = ⟨yn, yfrm, yto + yn.toNat, 0⟩) := hxy
      have ES : Hid (((yto + yn.toNat : Nat) : Int) = yto + yn) := by show _ = _; omega
      clear hxy g2 g6 g7
      go_enter Tryz.func110, Tryz.ntmps110
      go_wp2_with (go_at_call 109; refine hcall.mono ?_; rintro e w1 ⟨rfl, hk⟩; obtain ⟨z1, z2, z3⟩ := hk.last)
      exact bodyPost_ret (v := .tuple #[.agg #[.int .u64 yn, .int .i64 yfrm, .int .i64 (yto + yn)], .int .i64 0]) (by simp [results, Tryz.results110, go_sem, z1, z2]) rfl ⟨by rw [EX.out]; simp only [ES.out]; rfl, KF _ _ _ _ _ hk⟩
  · rw [if_pos hf] at hxy
    have EX : Hid (x = ⟨0, 0, 0, yf⟩) := hxy
    have hf1 : 1 ≤ yf := by omega
    clear hxy g2 g6 g7 hf
    go_enter Tryz.func110, Tryz.ntmps110
    go_wp2_with (go_at_call 109; refine hcall.mono ?_; rintro e w1 ⟨rfl, hk⟩; obtain ⟨z1, z2, z3⟩ := hk.last)
    exact bodyPost_ret (v := .tuple #[.agg #[.int .u64 0, .int .i64 0, .int .i64 0], .int .i64 yf]) (by simp [results, Tryz.results110, go_sem, z1, z2]) rfl ⟨by rw [EX.out]; rfl, KF _ _ _ _ _ hk⟩

end Go.Proofs.YtbphibolgckmnaaGreatDoor
