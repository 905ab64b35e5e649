/-
  WALKS: code.look and (*code.Reader).take, for every Reader.
  WALKS: code.Read and a Reader's Left, for every Reader.
  WALKS: the methods of a Reader: Var and Raw; the number of a fault.
-/
import Derived.Test.YtddhhjgegkkjbaaGreatDoorLook
import Derived.Test.YtddhhjgegkkjbaaGreatDoorPlain2
import Derived.Deep.QuietTactic
import Derived.BigQuiet
namespace Go.Proofs.YtddhhjgegkkjbaaGreatDoor
open Go.RowKit

set_option maxHeartbeats 1000000 in
theorem look_any (v : Value) (ys : List Int) (kind size most : Int) (w : World) (h : BytesAt w v ys) (hm : ys.length ≤ 140737488355328) (ho : Octs ys)
    (hs0 : kind = 0 → 1 ≤ size ∧ size ≤ 8) (hs1 : size ≤ 9223372036854775807) (x : Fnd) (hx : Hid (x = lookL ys kind size most)) :
    Calls Tryz.prog 89 #[v, .agg #[.int .i64 kind, .int .i64 size, .int .u64 most]] w fun e w' =>
      e = .returned (.tuple #[.agg #[.int .u64 x.n, .int .i64 x.frm, .int .i64 x.to], .int .i64 x.f]) ∧ Kept [] w w' := by
  have hb := h.kept (((Kept.refl [] w).alloc (.cells #[.int .i64 kind, .int .i64 size, .int .u64 most] 124)).alloc (.cells #[.int .u64 0, .int .i64 0, .int .i64 0] 151)) (fun _ _ => by simp)
  have KF : ∀ w1 a b c, Kept [] ((w.alloc (.cells #[.int .i64 kind, .int .i64 size, .int .u64 most] 124)).alloc (.cells #[.int .u64 0, .int .i64 0, .int .i64 0] 151)) w1 →
      Kept [] w (((w1.setCell ⟨w.heap.size + 1, 0, none⟩ a).setCell ⟨w.heap.size + 1, 1, none⟩ b).setCell ⟨w.heap.size + 1, 2, none⟩ c) := fun w1 a b c hk =>
    ((((((Kept.refl [] w).alloc _).alloc _).then hk).setCell (Or.inr (Nat.le_succ _)) _).setCell (Or.inr (Nat.le_succ _)) _).setCell (Or.inr (Nat.le_succ _)) _
  by_cases k0 : kind = 0
  · subst k0
    obtain ⟨s1, s2⟩ := hs0 rfl
    obtain ⟨n, rfl⟩ := Int.eq_ofNat_of_zero_le (show 0 ≤ size by omega)
    have hcall := lookFixed_any v ys n _ hb hm ho (by omega) (by omega) x (by rw [hx.out]; rfl)
    clear hx hs0 hb
    go_enter Tryz.func89, Tryz.ntmps89
    go_wp2_with (go_at_call 100; refine hcall.mono ?_; rintro e w1 ⟨rfl, hk⟩; obtain ⟨z1, z2, z3⟩ := hk.last2)
    exact bodyPost_ret (v := .tuple #[.agg #[.int .u64 x.n, .int .i64 x.frm, .int .i64 x.to], .int .i64 x.f]) (by simp [results, Tryz.results89, go_sem, z2]) rfl ⟨rfl, KF _ _ _ _ hk⟩
  · have e0 : (kind == 0) = false := beq_eq_false_iff_ne.2 k0
    by_cases k1 : kind = 1
    · subst k1
      have hcall := lookVar_any v ys most _ hb hm ho x (by rw [hx.out]; rfl)
      clear hx hs0 hb
      go_enter Tryz.func89, Tryz.ntmps89
      go_wp2_with (go_at_call 101; refine hcall.mono ?_; rintro e w1 ⟨rfl, hk⟩; obtain ⟨z1, z2, z3⟩ := hk.last2)
      exact bodyPost_ret (v := .tuple #[.agg #[.int .u64 x.n, .int .i64 x.frm, .int .i64 x.to], .int .i64 x.f]) (by simp [results, Tryz.results89, go_sem, z2]) rfl ⟨rfl, KF _ _ _ _ hk⟩
    · have e1 : (kind == 1) = false := beq_eq_false_iff_ne.2 k1
      by_cases k2 : kind = 2
      · subst k2
        have hcall := lookBytes_any v ys most _ hb hm ho x (by rw [hx.out]; rfl)
        clear hx hs0 hb
        go_enter Tryz.func89, Tryz.ntmps89
        go_wp2_with (go_at_call 102; refine hcall.mono ?_; rintro e w1 ⟨rfl, hk⟩; obtain ⟨z1, z2, z3⟩ := hk.last2)
        exact bodyPost_ret (v := .tuple #[.agg #[.int .u64 x.n, .int .i64 x.frm, .int .i64 x.to], .int .i64 x.f]) (by simp [results, Tryz.results89, go_sem, z2]) rfl ⟨rfl, KF _ _ _ _ hk⟩
      · have e2 : (kind == 2) = false := beq_eq_false_iff_ne.2 k2
        have hcall := lookRaw_any v ys size _ hb hs1 x (by rw [hx.out]; exact (if_neg k0).trans ((if_neg k1).trans (if_neg k2)))
        clear hx hs0 hb k0 k1 k2
        go_enter Tryz.func89, Tryz.ntmps89
        go_wp2_with (go_at_call 103; refine hcall.mono ?_; rintro e w1 ⟨rfl, hk⟩; obtain ⟨z1, z2, z3⟩ := hk.last2)
        exact bodyPost_ret (v := .tuple #[.agg #[.int .u64 x.n, .int .i64 x.frm, .int .i64 x.to], .int .i64 x.f]) (by simp [results, Tryz.results89, go_sem, z2]) rfl ⟨rfl, KF _ _ _ _ hk⟩

/-- The Reader in block r over the bytes xs (in block g), at that place, with that fault. -/
structure Rdr (w : World) (r g : Nat) (xs : List Int) (pl f : Nat) : Prop where
  blk : w.heap[r]? = some (.cells #[.slice (some ⟨g, 0, none⟩) xs.length xs.length, .int .i64 pl, .int .i64 f] 119 (0, 0))
  row : w.heap[g]? = some (.cells (xs.map (Value.int .u8)).toArray 5 (0, 0))
  ne : r ≠ g
  le : pl ≤ xs.length
  small : xs.length ≤ 140737488355328
  oct : Octs xs

theorem Rdr.kept {w w' : World} {r g : Nat} {xs : List Int} {pl f : Nat} {S : List Nat} (R : Rdr w r g xs pl f) (k : Kept S w w') (h1 : r ∉ S) (h2 : g ∉ S) : Rdr w' r g xs pl f :=
  ⟨k.heap R.blk h1, k.heap R.row h2, R.ne, R.le, R.small, R.oct⟩

theorem Rdr.facts {w : World} {r g : Nat} {xs : List Int} {pl f : Nat} (R : Rdr w r g xs pl f) :
    w.cell? ⟨r, 0, none⟩ = some (.slice (some ⟨g, 0, none⟩) xs.length xs.length) ∧ w.cell? ⟨r, 1, none⟩ = some (.int .i64 pl) ∧ w.cell? ⟨r, 2, none⟩ = some (.int .i64 f) ∧
      (∀ o, w.frozen? ⟨r, o, none⟩ = false) ∧ r < w.heap.size :=
  ⟨cell_of_row _ _ _ _ _ _ R.blk, cell_of_row _ _ _ _ _ _ R.blk, cell_of_row _ _ _ _ _ _ R.blk, fun _ => frozen_of_row _ _ _ _ _ R.blk, lt_of_block R.blk⟩
theorem Rdr.setFault {w : World} {r g : Nat} {xs : List Int} {pl f : Nat} (R : Rdr w r g xs pl f) (f' : Nat) : Rdr (w.setCell ⟨r, 2, none⟩ (.int .i64 f')) r g xs pl f' :=
  ⟨heap_setCell_same _ _ _ _ _ _ R.blk, (heap_setCell_other _ _ _ _ (Ne.symm R.ne)).trans R.row, R.ne, R.le, R.small, R.oct⟩
theorem Rdr.setPlace {w : World} {r g : Nat} {xs : List Int} {pl f : Nat} (R : Rdr w r g xs pl f) (pl' : Nat) (h : pl' ≤ xs.length) : Rdr (w.setCell ⟨r, 1, none⟩ (.int .i64 pl')) r g xs pl' f :=
  ⟨heap_setCell_same _ _ _ _ _ _ R.blk, (heap_setCell_other _ _ _ _ (Ne.symm R.ne)).trans R.row, R.ne, h, R.small, R.oct⟩
theorem Rdr.alloc {w : World} {r g : Nat} {xs : List Int} {pl f : Nat} (R : Rdr w r g xs pl f) (o : Obj) : Rdr (w.alloc o) r g xs pl f := R.kept (S := []) ((Kept.refl _ _).alloc o) (by simp) (by simp)

/-- What a Reader's one step comes to. -/
structure Took where
  n : Int
  text : List Int
  pl : Nat
  f : Nat
def takeL (xs : List Int) (pl f : Nat) (kind size most : Int) : Took :=
  if f ≠ 0 then ⟨0, [], pl, f⟩
  else if (lookL (xs.drop pl) kind size most).f ≠ 0 then ⟨0, [], pl, (lookL (xs.drop pl) kind size most).f⟩
  else ⟨(lookL (xs.drop pl) kind size most).n, ((xs.drop pl).take (lookL (xs.drop pl) kind size most).to).drop (lookL (xs.drop pl) kind size most).frm, pl + (lookL (xs.drop pl) kind size most).to, 0⟩

set_option maxHeartbeats 400000 in
theorem take_bad (w : World) (r g : Nat) (xs : List Int) (pl f : Nat) (kind size most : Int) (R : Rdr w r g xs pl f) (hf : f ≠ 0) :
    Calls Tryz.prog 63 #[.pointer (some ⟨r, 0, none⟩), .agg #[.int .i64 kind, .int .i64 size, .int .u64 most]] w fun e w' =>
      e = .returned (.tuple #[.int .u64 0, .slice none 0 0]) ∧ Kept [] w w' := by
  have hr := lt_of_block R.blk
  have c2 : w.cell? ⟨r, 2, none⟩ = some (.int .i64 f) := cell_of_row _ _ _ _ _ _ R.blk
  have e1 : ((f : Int) != 0) = true := by rw [bne_iff_ne]; omega
  clear R
  go_enter Tryz.func63, Tryz.ntmps63
  go_wp2
  go_ret2
  exact ⟨rfl, (Kept.refl _ _).alloc _⟩

set_option maxHeartbeats 2000000 in
theorem take_mid (w : World) (r g : Nat) (xs : List Int) (pl : Nat) (kind size most : Int) (R : Rdr w r g xs pl 0) (hs0 : kind = 0 → 1 ≤ size ∧ size ≤ 8) (hs1 : size ≤ 9223372036854775807)
    (hmost : most ≤ 18446744073709551615) (x : Fnd) (hx : Hid (x = lookL (xs.drop pl) kind size most)) (hlt : pl < xs.length) :
    Calls Tryz.prog 63 #[.pointer (some ⟨r, 0, none⟩), .agg #[.int .i64 kind, .int .i64 size, .int .u64 most]] w fun e w' =>
      ∃ tv, e = .returned (.tuple #[.int .u64 x.n, tv]) ∧ BytesAt w' tv (((xs.drop pl).take x.to).drop x.frm) ∧ Rdr w' r g xs (pl + x.to) x.f ∧ Kept [r] w w' := by
  have hr := lt_of_block R.blk
  have c0 : w.cell? ⟨r, 0, none⟩ = some (.slice (some ⟨g, 0, none⟩) xs.length xs.length) := cell_of_row _ _ _ _ _ _ R.blk
  have c1 : w.cell? ⟨r, 1, none⟩ = some (.int .i64 pl) := cell_of_row _ _ _ _ _ _ R.blk
  have c2 : w.cell? ⟨r, 2, none⟩ = some (.int .i64 0) := cell_of_row _ _ _ _ _ _ R.blk
  have hsm := R.small
  have hrest : BytesAt w (.slice (some ⟨g, pl, none⟩) (xs.length - pl) (xs.length - pl)) (xs.drop pl) := by
    have := BytesAt.seg R.row pl (xs.length - pl) (xs.length - pl) (by omega) (Nat.le_refl _)
    rwa [List.take_of_length_le (by simp)] at this
  have hcall := fun nq => look_any _ (xs.drop pl) kind size most _ ((hrest.kept ((Kept.refl [] w).alloc (.cells #[.int .i64 kind, .int .i64 size, .int .u64 most] 124)) (fun _ _ => by simp)).drewN nq)
    (by simp; omega) (octs_drop R.oct pl) hs0 hs1 x hx
  have hfit := lookL_fits (xs.drop pl) kind size most (octs_drop R.oct pl) (fun h => (hs0 h).2) hmost
  rw [← hx.out] at hfit
  obtain ⟨g1, g2, g3, g4, g5, g6⟩ := hfit
  simp only [List.length_drop] at g4
  have HR : Hid (Rdr w r g xs pl 0) := R
  clear R hrest hs0 hx
  obtain ⟨xn, xfrm, xto, xf⟩ := x
  dsimp only at g1 g2 g3 g4 g5 g6 hcall
  by_cases hf : xf = 0
  · subst hf
    clear g6 g5
    go_enter Tryz.func63, Tryz.ntmps63
    go_wp2
    go_quiet (fail)
    go_wp2_with (go_at_call 89; refine (hcall _).mono ?_; rintro e w1 ⟨rfl, hk⟩; have hK : Kept [] w w1 := (((Kept.refl [] w).alloc _).drewN _).then hk; have R1 := HR.out.kept hK (by simp) (by simp); obtain ⟨d0, d1, d2, d3, d4⟩ := R1.facts; have R1' : Hid _ := R1; clear R1)
    go_region
    go_wp2
    go_quiet (fail)
    all_goals go_wp2
    all_goals go_ret2
    all_goals have R2 := R1'.out.setPlace (pl + xto) (by omega)
    all_goals rw [Int.natCast_add] at R2
    all_goals have R3 := (R2.alloc (.cells #[.int .u64 xn, .int .i64 xfrm, .int .i64 xto] 151)).kept (S := []) ((Kept.refl _ _).drewN (1 + nq)) (by simp) (by simp)
    all_goals have K3 := (((hK.more (S' := [r]) (by simp)).setCell (p := ⟨r, 1, none⟩) (Or.inl (by simp)) (.int .i64 (pl + xto))).alloc (.cells #[.int .u64 xn, .int .i64 xfrm, .int .i64 xto] 151)).drewN (1 + nq)
    · have h0 : ((xs.drop pl).take xto).drop xfrm = [] := List.drop_eq_nil_of_le (by simp; omega)
      have h1 : xto - xfrm = 0 := by omega
      refine ⟨_, rfl, ?_, R3, K3⟩
      rw [h0]
      first | exact BytesAt.none' _ _ (fun e => by simp at e) | (show BytesAt _ (.slice (some _) (xto - xfrm) _) _; rw [h1]; exact BytesAt.none' _ _ (fun e => by simp at e))
    · have hB := BytesAt.seg R3.row (pl + xfrm) (xto - xfrm) (xs.length - pl - xfrm) (by omega) (by omega)
      have h0 : ((xs.drop pl).take xto).drop xfrm = (xs.drop (pl + xfrm)).take (xto - xfrm) := by rw [List.drop_take, List.drop_drop]
      rw [← h0] at hB
      exact ⟨_, rfl, hB, R3, K3⟩
  · have hf1 : 1 ≤ xf := by omega
    have e6 := g6 hf
    simp only [Fnd.mk.injEq] at e6
    obtain ⟨rfl, rfl, rfl, _⟩ := e6
    clear g6 hf
    go_enter Tryz.func63, Tryz.ntmps63
    go_wp2
    go_quiet (fail)
    go_wp2_with (go_at_call 89; refine (hcall _).mono ?_; rintro e w1 ⟨rfl, hk⟩; have hK : Kept [] w w1 := (((Kept.refl [] w).alloc _).drewN _).then hk; have R1 := HR.out.kept hK (by simp) (by simp); obtain ⟨d0, d1, d2, d3, d4⟩ := R1.facts; have R1' : Hid _ := R1; clear R1)
    go_ret2
    exact ⟨.slice none 0 0, rfl, by simpa using BytesAt.nil _, (R1'.out.setFault xf).alloc _, ((hK.more (by simp)).setCell (Or.inl (by simp)) _).alloc _⟩

set_option maxHeartbeats 2000000 in
theorem take_end (w : World) (r g : Nat) (xs : List Int) (pl : Nat) (kind size most : Int) (R : Rdr w r g xs pl 0) (hs0 : kind = 0 → 1 ≤ size ∧ size ≤ 8) (hs1 : size ≤ 9223372036854775807)
    (hmost : most ≤ 18446744073709551615) (x : Fnd) (hx : Hid (x = lookL (xs.drop pl) kind size most)) (hpl : pl = xs.length) :
    Calls Tryz.prog 63 #[.pointer (some ⟨r, 0, none⟩), .agg #[.int .i64 kind, .int .i64 size, .int .u64 most]] w fun e w' =>
      ∃ tv, e = .returned (.tuple #[.int .u64 x.n, tv]) ∧ BytesAt w' tv (((xs.drop pl).take x.to).drop x.frm) ∧ Rdr w' r g xs (pl + x.to) x.f ∧ Kept [r] w w' := by
  have hr := lt_of_block R.blk
  have c0 : w.cell? ⟨r, 0, none⟩ = some (.slice (some ⟨g, 0, none⟩) xs.length xs.length) := cell_of_row _ _ _ _ _ _ R.blk
  have c1 : w.cell? ⟨r, 1, none⟩ = some (.int .i64 pl) := cell_of_row _ _ _ _ _ _ R.blk
  have c2 : w.cell? ⟨r, 2, none⟩ = some (.int .i64 0) := cell_of_row _ _ _ _ _ _ R.blk
  have hsm := R.small
  have hrest : BytesAt w (.slice (some ⟨g, 0, none⟩) 0 0) (xs.drop pl) := by
    rw [List.drop_eq_nil_of_le (by omega)]
    exact BytesAt.none' _ _ (fun e => by simp at e)
  have hcall := fun nq => look_any _ (xs.drop pl) kind size most _ ((hrest.kept ((Kept.refl [] w).alloc (.cells #[.int .i64 kind, .int .i64 size, .int .u64 most] 124)) (fun _ _ => by simp)).drewN nq)
    (by simp; omega) (octs_drop R.oct pl) hs0 hs1 x hx
  have hfit := lookL_fits (xs.drop pl) kind size most (octs_drop R.oct pl) (fun h => (hs0 h).2) hmost
  rw [← hx.out] at hfit
  obtain ⟨g1, g2, g3, g4, g5, g6⟩ := hfit
  simp only [List.length_drop] at g4
  have HR : Hid (Rdr w r g xs pl 0) := R
  clear R hrest hs0 hx
  have hto : x.to = 0 := by omega
  have hfrm : x.frm = 0 := by omega
  have hge : xs.length ≤ pl := by omega
  have hle : pl ≤ xs.length := by omega
  clear hpl
  obtain ⟨xn, xfrm, xto, xf⟩ := x
  dsimp only at g1 g2 g3 g4 g5 g6 hcall hto hfrm
  subst hto hfrm
  by_cases hf : xf = 0
  · subst hf
    clear g6 g5
    go_enter Tryz.func63, Tryz.ntmps63
    go_wp2
    go_quiet (fail)
    go_wp2_with (go_at_call 89; refine (hcall _).mono ?_; rintro e w1 ⟨rfl, hk⟩; have hK : Kept [] w w1 := (((Kept.refl [] w).alloc _).drewN _).then hk; have R1 := HR.out.kept hK (by simp) (by simp); obtain ⟨d0, d1, d2, d3, d4⟩ := R1.facts; have R1' : Hid _ := R1; clear R1)
    go_region
    go_wp2
    go_quiet (fail)
    all_goals go_wp2
    all_goals go_ret2
    have R2 := R1'.out.setPlace pl hle
    have R3 := (R2.alloc (.cells #[.int .u64 xn, .int .i64 0, .int .i64 0] 151)).kept (S := []) (((Kept.refl _ _).drew).drewN nq) (by simp) (by simp)
    have K3 := ((((hK.more (S' := [r]) (by simp)).setCell (p := ⟨r, 1, none⟩) (Or.inl (by simp)) (.int .i64 pl)).alloc (.cells #[.int .u64 xn, .int .i64 0, .int .i64 0] 151)).drew).drewN nq
    exact ⟨.slice (some ⟨g, 0, none⟩) 0 0, rfl, by simpa using BytesAt.none' _ _ (fun e => by simp at e), R3, K3⟩
  · have hf1 : 1 ≤ xf := by omega
    have e6 := g6 hf
    simp only [Fnd.mk.injEq] at e6
    obtain ⟨rfl, _⟩ := e6
    clear g6 hf
    go_enter Tryz.func63, Tryz.ntmps63
    go_wp2
    go_quiet (fail)
    go_wp2_with (go_at_call 89; refine (hcall _).mono ?_; rintro e w1 ⟨rfl, hk⟩; have hK : Kept [] w w1 := (((Kept.refl [] w).alloc _).drewN _).then hk; have R1 := HR.out.kept hK (by simp) (by simp); obtain ⟨d0, d1, d2, d3, d4⟩ := R1.facts; have R1' : Hid _ := R1; clear R1)
    go_ret2
    exact ⟨.slice none 0 0, rfl, by simpa using BytesAt.nil _, (R1'.out.setFault xf).alloc _, ((hK.more (by simp)).setCell (Or.inl (by simp)) _).alloc _⟩

/-- A Reader's one step, for every Reader and item. -/
theorem take_any (w : World) (r g : Nat) (xs : List Int) (pl f : Nat) (kind size most : Int) (R : Rdr w r g xs pl f) (hs0 : kind = 0 → 1 ≤ size ∧ size ≤ 8) (hs1 : size ≤ 9223372036854775807)
    (hmost : most ≤ 18446744073709551615) (y : Took) (hy : Hid (y = takeL xs pl f kind size most)) :
    Calls Tryz.prog 63 #[.pointer (some ⟨r, 0, none⟩), .agg #[.int .i64 kind, .int .i64 size, .int .u64 most]] w fun e w' =>
      ∃ tv, e = .returned (.tuple #[.int .u64 y.n, tv]) ∧ BytesAt w' tv y.text ∧ Rdr w' r g xs y.pl y.f ∧ Kept [r] w w' := by
  rw [hy.out]
  by_cases hf : f = 0
  · subst hf
    have hfit := lookL_fits (xs.drop pl) kind size most (octs_drop R.oct pl) (fun h => (hs0 h).2) hmost
    have key : ∀ tv w', BytesAt w' tv (((xs.drop pl).take (lookL (xs.drop pl) kind size most).to).drop (lookL (xs.drop pl) kind size most).frm) ∧ Rdr w' r g xs (pl + (lookL (xs.drop pl) kind size most).to) (lookL (xs.drop pl) kind size most).f →
        BytesAt w' tv (takeL xs pl 0 kind size most).text ∧ Rdr w' r g xs (takeL xs pl 0 kind size most).pl (takeL xs pl 0 kind size most).f ∧ (lookL (xs.drop pl) kind size most).n = (takeL xs pl 0 kind size most).n := by
      intro tv w' ⟨hb, hr⟩
      unfold takeL
      rw [if_neg (by decide)]
      by_cases h0 : (lookL (xs.drop pl) kind size most).f = 0
      · rw [if_neg (by simpa using h0)]
        rw [h0] at hr
        exact ⟨hb, hr, rfl⟩
      · rw [if_pos h0]
        have e := hfit.bad h0
        rw [e] at hb hr
        refine ⟨by simpa using hb, by simpa using hr, by rw [e]⟩
    by_cases hpl : pl = xs.length
    · refine (take_end w r g xs pl kind size most R hs0 hs1 hmost _ rfl hpl).mono ?_
      rintro e w' ⟨tv, he, hb, hr, hk⟩
      obtain ⟨k1, k2, k3⟩ := key tv w' ⟨hb, hr⟩
      exact ⟨tv, by rw [← k3]; exact he, k1, k2, hk⟩
    · refine (take_mid w r g xs pl kind size most R hs0 hs1 hmost _ rfl (by have := R.le; omega)).mono ?_
      rintro e w' ⟨tv, he, hb, hr, hk⟩
      obtain ⟨k1, k2, k3⟩ := key tv w' ⟨hb, hr⟩
      exact ⟨tv, by rw [← k3]; exact he, k1, k2, hk⟩
  · refine (take_bad w r g xs pl f kind size most R hf).mono ?_
    rintro e w' ⟨he, hk⟩
    have ey : takeL xs pl f kind size most = ⟨0, [], pl, f⟩ := if_pos hf
    rw [ey]
    exact ⟨_, he, BytesAt.nil _, R.kept hk (by simp) (by simp), hk.more (by simp)⟩

end Go.Proofs.YtddhhjgegkkjbaaGreatDoor

namespace Go.Proofs.YtddhhjgegkkjbaaGreatDoor
open Go.RowKit

set_option maxHeartbeats 400000 in
theorem Read_any (v : Value) (ys : List Int) (w : World) (h : BytesAt w v ys) (hm : ys.length ≤ 140737488355328) (ho : Octs ys) :
    Calls Tryz.prog 47 #[v] w fun e w' => ∃ r g, e = .returned (.pointer (some ⟨r, 0, none⟩)) ∧ Rdr w' r g ys 0 0 ∧ Kept [] w w' ∧ w.heap.size ≤ r ∧ w.heap.size ≤ g := by
  have hcall := copied_any v ys w h hm
  obtain ⟨ao, cap, rfl, _⟩ := h
  go_enter Tryz.func47, Tryz.ntmps47
  go_wp2_with (go_at_call 62; refine hcall.mono ?_; rintro e w1 ⟨rfl, hg, hk⟩; have HG : Hid _ := hg; clear hg)
  go_ret
  have hlt := lt_of_block HG.out
  refine ⟨w1.heap.size, w.heap.size, rfl, ⟨heap_alloc_new w1 _, (Below.heap_alloc w1 _ _ hlt).trans HG.out, by omega, Nat.zero_le _, hm, ho⟩, hk.alloc _, hk.size, Nat.le_refl _⟩

theorem Left_any {w : World} {r g : Nat} {xs : List Int} {pl f : Nat} (R : Rdr w r g xs pl f) : Calls Tryz.prog 50 #[.pointer (some ⟨r, 0, none⟩)] w fun e w' => e = .returned (.int .i64 ((xs.length : Int) - pl)) ∧ ∃ n, w' = w.drewN n := by
  obtain ⟨d0, d1, d2, d3, d4⟩ := R.facts
  have hle := R.le
  have hsm := R.small
  clear R
  go_enter Tryz.func50, Tryz.ntmps50
  go_wp2
  go_quiet (fail)
  go_wp2
  go_ret
  exact ⟨rfl, _, rfl⟩

/-- A number of so few bytes is small. -/
theorem take_lt (xs : List Int) (ho : Octs xs) (pl f size : Nat) : 0 ≤ (takeL xs pl f 0 size 0).n ∧ (takeL xs pl f 0 size 0).n < 256 ^ size := by
  have hp : (0 : Int) < 256 ^ size := Int.pow_pos (by decide)
  unfold takeL
  split
  · exact ⟨Int.le_refl _, hp⟩
  · split
    · exact ⟨Int.le_refl _, hp⟩
    · have e : lookL (xs.drop pl) 0 size 0 = fixedL (xs.drop pl) size := by unfold lookL; rw [if_pos rfl, Int.toNat_natCast]
      rename_i h1 h2
      rw [e] at h2 ⊢
      unfold fixedL at h2 ⊢
      by_cases hl : (xs.drop pl).length < size
      · rw [if_pos hl] at h2; simp at h2
      · rw [if_neg hl]
        have hb := be_from ((xs.drop pl).take size) (octs_take (octs_drop ho pl) size) 0 (by omega)
        have h3 : ((xs.drop pl).take size).length = size := by rw [List.length_take]; omega
        rw [h3] at hb
        refine ⟨hb.1, ?_⟩
        have h4 : be ((xs.drop pl).take size) < (0 + 1) * 256 ^ size := hb.2
        show be ((xs.drop pl).take size) < 256 ^ size
        omega

end Go.Proofs.YtddhhjgegkkjbaaGreatDoor

namespace Go.Proofs.YtddhhjgegkkjbaaGreatDoor
open Go.RowKit

def errL : Nat → Int
  | 0 => 0
  | 1 => 10
  | 2 => 11
  | 3 => 12
  | 4 => 14
  | _ => 0

theorem errno_any (f : Nat) (w : World) (hf : f ≤ 4) : Calls Tryz.prog 68 #[.int .i64 f] w fun e w' => e = .returned (.int .i64 (errL f)) ∧ w' = w := by
  match f, hf with
  | 0, _ => go_enter Tryz.func68, Tryz.ntmps68; go_wp2; go_ret; exact ⟨rfl, rfl⟩
  | 1, _ => go_enter Tryz.func68, Tryz.ntmps68; go_wp2; go_ret; exact ⟨rfl, rfl⟩
  | 2, _ => go_enter Tryz.func68, Tryz.ntmps68; go_wp2; go_ret; exact ⟨rfl, rfl⟩
  | 3, _ => go_enter Tryz.func68, Tryz.ntmps68; go_wp2; go_ret; exact ⟨rfl, rfl⟩
  | 4, _ => go_enter Tryz.func68, Tryz.ntmps68; go_wp2; go_ret; exact ⟨rfl, rfl⟩
  | _ + 5, h => omega

set_option maxHeartbeats 400000 in
theorem Var_any {w : World} {r g : Nat} {xs : List Int} {pl f : Nat} (R : Rdr w r g xs pl f) (most : Int) (hm : most ≤ 18446744073709551615) (y : Took) (hy : Hid (y = takeL xs pl f 1 0 most)) :
    Calls Tryz.prog 64 #[.pointer (some ⟨r, 0, none⟩), .int .u64 most] w fun e w' => e = .returned (.int .u64 y.n) ∧ Rdr w' r g xs y.pl y.f ∧ Kept [r] w w' := by
  have hcall := take_any w r g xs pl f 1 0 most R (by decide) (by decide) hm y hy
  clear R hy
  go_enter Tryz.func64, Tryz.ntmps64
  go_wp2_with (go_at_call 63; refine hcall.mono ?_; rintro e w1 ⟨tv, rfl, hb, hr, hk⟩)
  go_ret
  exact ⟨rfl, hr, hk⟩

theorem take_len (xs : List Int) (pl f : Nat) (kind size most : Int) : (takeL xs pl f kind size most).text.length ≤ xs.length := by
  unfold takeL
  split
  · exact Nat.zero_le _
  · split
    · exact Nat.zero_le _
    · simp only [List.length_drop, List.length_take]; omega

set_option maxHeartbeats 400000 in
theorem Raw_any {w : World} {r g : Nat} {xs : List Int} {pl f : Nat} (R : Rdr w r g xs pl f) (n : Int) (hn : n ≤ 9223372036854775807) (y : Took) (hy : Hid (y = takeL xs pl f 3 n 0)) :
    Calls Tryz.prog 49 #[.pointer (some ⟨r, 0, none⟩), .int .i64 n] w fun e w' =>
      ∃ q, e = .returned (.slice (some ⟨q, 0, none⟩) y.text.length y.text.length) ∧ w'.heap[q]? = some (.cells (y.text.map (Value.int .u8)).toArray 5 (0, 0)) ∧ w.heap.size ≤ q ∧ Rdr w' r g xs y.pl y.f ∧ Kept [r] w w' := by
  have hcall := take_any w r g xs pl f 3 n 0 R (fun h => absurd h (by decide)) hn (by decide) y hy
  have hlen : y.text.length ≤ 140737488355328 := by rw [hy.out]; exact Nat.le_trans (take_len _ _ _ _ _ _) R.small
  clear R hy
  go_enter Tryz.func49, Tryz.ntmps49
  go_wp2_with (first | (go_at_call 63; refine hcall.mono ?_; rintro e w1 ⟨tv, rfl, hb, hr, hk⟩) | (go_at_call 62; refine (copied_any _ y.text _ (by assumption) hlen).mono ?_; rintro e w2 ⟨rfl, hq, hk2⟩; have HQ : Hid _ := hq; clear hq))
  go_ret
  exact ⟨w1.heap.size, rfl, HQ.out, hk.size, hr.kept hk2 (by simp) (by simp), hk.trans hk2 (by simp)⟩

end Go.Proofs.YtddhhjgegkkjbaaGreatDoor
