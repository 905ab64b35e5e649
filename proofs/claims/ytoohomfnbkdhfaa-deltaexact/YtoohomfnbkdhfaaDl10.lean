/-
  WALK: satchellaw7.placed.
-/
import Derived.Test.YtoohomfnbkdhfaaDl9
namespace Go.Proofs.Ytoohomfnbkdhfaa
open Go.RowKit

theorem runL_len (bs ds : List Int) (ho : Octs ds) : ∀ (fuel pl room : Nat) (acc : List Int), (runL bs ds fuel pl room acc).2.length ≤ acc.length + room
  | 0, pl, room, acc => by
    unfold runL
    split
    · simp
    · dsimp only; omega
  | fuel + 1, pl, room, acc => by
    unfold runL
    by_cases h0 : room = 0
    · rw [if_pos h0]
      split
      · simp
      · dsimp only; omega
    · rw [if_neg h0]
      by_cases h1 : (cmdL bs ds pl room).err ≠ 0
      · rw [if_pos h1]; simp
      · rw [if_neg h1]
        have h2 := runL_len bs ds ho fuel (cmdL bs ds pl room).pl (room - (cmdL bs ds pl room).text.length) (acc ++ (cmdL bs ds pl room).text)
        have h3 := cmd_len bs ds ho pl room (by simpa using h1)
        rw [List.length_append] at h2
        omega
theorem applyL_len (bs ds : List Int) (ho : Octs ds) : (applyL bs ds).2.length ≤ 65536 := by
  unfold applyL applyOf
  split
  · simp
  · rename_i hc
    have h1 := head_ok ds ho (fun n => decide (n = bs.length)) (by simpa using hc)
    have h2 := runL_len bs ds ho (headL ds (fun n => decide (n = bs.length))).t.toNat (headL ds (fun n => decide (n = bs.length))).pl (headL ds (fun n => decide (n = bs.length))).t.toNat []
    simp only [List.length_nil] at h2
    omega

/-- What lies where on the way. -/
structure PlD (w W : World) (B gb cb gd cd : Nat) (pr : Array Value) (xs ys : List Int) : Prop where
  kept : Kept [gb, gd] w W
  box : W.heap[w.heap.size]? = some (.cells pr 48 (0, 0))
  lb : Lent W B gb cb xs
  ld : Lent W B gd cd ys
  b1 : gb < w.heap.size
  b2 : gd < w.heap.size
  ne : gb ≠ gd
theorem PlD.on {w W W' : World} {B gb cb gd cd : Nat} {pr : Array Value} {xs ys : List Int} (P : PlD w W B gb cb gd cd pr xs ys) (k : Kept [] W W') : PlD w W' B gb cb gd cd pr xs ys :=
  ⟨P.kept.trans k (by simp), k.heap P.box (by simp), Lent.kept P.lb k (by simp), Lent.kept P.ld k (by simp), P.b1, P.b2, P.ne⟩
theorem PlD.intoB {w W W' : World} {B gb cb gd cd : Nat} {pr : Array Value} {xs xs' ys : List Int} (P : PlD w W B gb cb gd cd pr xs ys) (k : Kept [gb] W W') (l : Lent W' B gb cb xs') : PlD w W' B gb cb gd cd pr xs' ys := by
  have h1 := P.b1
  have h2 := P.ne
  exact ⟨P.kept.trans k (by simp), k.heap P.box (by simp; omega), l, Lent.kept P.ld k (by simp; omega), P.b1, P.b2, P.ne⟩
theorem PlD.intoD {w W W' : World} {B gb cb gd cd : Nat} {pr : Array Value} {xs ys ys' : List Int} (P : PlD w W B gb cb gd cd pr xs ys) (k : Kept [gd] W W') (l : Lent W' B gd cd ys') : PlD w W' B gb cb gd cd pr xs ys' := by
  have h1 := P.b2
  have h2 := P.ne
  exact ⟨P.kept.trans k (by simp), k.heap P.box (by simp; omega), Lent.kept P.lb k (by simp; omega), l, P.b1, P.b2, P.ne⟩
/-- Bytes in new memory stay as they are while old places are written to. -/
theorem bytes_stay {w1 W : World} {S : List Nat} {v : Value} {zs : List Int} (h : BytesAt w1 v zs) (k : Kept S w1 W) (hn : ∀ x, blkOf v = some x → x ∉ S) : BytesAt W v zs := h.kept k hn

set_option maxRecDepth 100000 in
set_option maxHeartbeats 4000000 in
theorem placed_any {w : World} {B gb cb gd cd cp cq : Nat} {ap aq : Option Addr} {bs ds : List Int} (lb : Lent w B gb cb bs) (ld : Lent w B gd cd ds) (hgd : gb ≠ gd)
    (hp : BytesAt w (.slice ap bs.length cp) bs) (hq : BytesAt w (.slice aq ds.length cq) ds) (hpa : bs ≠ [] → ∀ k, blkOf (.slice ap bs.length cp) = some k → k < B) (hqa : ds ≠ [] → ∀ k, blkOf (.slice aq ds.length cq) = some k → k < B)
    (hob : Octs bs) (hod : Octs ds) (hsb : bs.length ≤ 140737488351232) (hsd : ds.length ≤ 140737488351232) :
    Calls Try.prog 24 #[.slice (some ⟨gb, 0, none⟩) bs.length cb, .slice (some ⟨gd, 0, none⟩) ds.length cd, .agg #[.slice ap bs.length cp, .slice aq ds.length cq]] w fun e w' => e = .returned (.bool true) ∧ Kept [gb, gd] w w' := by
  obtain ⟨_, _, rb1, rb2⟩ := lb.room
  obtain ⟨_, _, rd1, rd2⟩ := ld.room
  have HP : Hid (∀ W, Kept [gb, gd] w W → BytesAt W (.slice ap bs.length cp) bs) := fun W k => hp.kept' k (fun hne x hx => by have := hpa hne x hx; simp; omega)
  have HQ : Hid (∀ W, Kept [gb, gd] w W → BytesAt W (.slice aq ds.length cq) ds) := fun W k => hq.kept' k (fun hne x hx => by have := hqa hne x hx; simp; omega)
  have D0 : PlD w (w.alloc (.cells #[.slice ap bs.length cp, .slice aq ds.length cq] 48)) B gb cb gd cd #[.slice ap bs.length cp, .slice aq ds.length cq] bs ds :=
    ⟨(Kept.refl _ _).alloc _, heap_alloc_new w _, Lent.kept lb ((Kept.refl [] _).alloc _) (by simp), Lent.kept ld ((Kept.refl [] _).alloc _) (by simp), rb2, rd2, hgd⟩
  have hot := Other_any _ bs _ (HP.out _ D0.kept) hsb hob
  have HD0 : Hid _ := D0
  clear hp hq hpa hqa D0 lb ld
  go_enter Try.func24, Try.ntmps24
  go_wp2_with fail
  go_at_call 45
  refine hot.mono ?_
  rintro e w1 ⟨u, zs, rfl, hu, hlz, hoz, k1⟩
  obtain ⟨au, cu, rfl⟩ := own_shape hu
  have D1 := HD0.out.on k1
  have HUB : Hid (∀ x, blkOf (.slice au zs.length cu) = some x → w.heap.size + 1 ≤ x) := fun x hx => by
    have h := (World.ownsRow.lt hu x (by rw [own_blk]; exact hx)).1
    rw [World.size_alloc] at h
    exact h
  have HU1 : Hid (BytesAt w1 (.slice au zs.length cu) zs) := hu.bytes
  have hin := Into_any D1.lb HU1.out (fun _ x hx => by have := HUB.out x hx; simp; omega) hlz.symm (by omega)
  have HLZ : Hid (zs.length = bs.length) := hlz
  have HD1 : Hid _ := D1
  clear hot hu k1 D1 HD0 hlz
  go_wp2_with fail
  go_at_call 46
  refine hin.mono ?_
  rintro e w2 ⟨rfl, l2, k2⟩
  have D2 := HD1.out.intoB k2 l2
  obtain ⟨R1, hR1⟩ : ∃ R, Hid (R = applyL zs ds) := ⟨_, rfl⟩
  have hRl1 : R1.2.length ≤ 140737488355328 := by have h := applyL_len zs ds hod; rw [← hR1.out] at h; omega
  have happ := Apply_any D2.lb.bytes D2.ld.bytes hod (by omega) R1 hR1
  rw [HLZ.out] at happ
  have HU2 : Hid (BytesAt w2 (.slice au zs.length cu) zs) := HU1.out.kept k2 (fun x hx => by have := HUB.out x hx; simp; omega)
  have HD2 : Hid _ := D2
  clear hin D2 k2 l2 HD1 HU1
  go_wp2_with fail
  go_at_call 14
  refine happ.mono ?_
  rintro e w3 ⟨v1, rfl, t1, t2, t3⟩
  have D3 := HD2.out.on t2
  have HU3 : Hid (BytesAt w3 (.slice au zs.length cu) zs) := HU2.out.kept t2 (fun _ _ => by simp)
  have HT3 : Hid (BytesAt w3 v1 R1.2) := t1
  obtain ⟨q1, q2, q3⟩ := own_facts D3.box
  have g1 := q1 1
  simp at g1
  have hrap := RApply_any HU3.out hoz (by have := HLZ.out; omega) (HQ.out _ D3.kept) hod (by omega) R1 hR1
  have HD3 : Hid _ := D3
  obtain ⟨a1, c1, rfl, _⟩ := t1
  clear happ t2 t3 D3 HD2 HU2 q1 q2
  go_wp2_with fail
  go_at_call 20
  refine hrap.mono ?_
  rintro e w4 ⟨v2, rfl, t1, t2, t3⟩
  have D4 := HD3.out.on t2
  have HU4 : Hid (BytesAt w4 (.slice au zs.length cu) zs) := HU3.out.kept t2 (fun _ _ => by simp)
  have heq := Eq_same (HT3.out.kept t2 (fun _ _ => by simp)) t1 hRl1
  have hnum := num7_any R1.1 w4
  have HD4 : Hid _ := D4
  obtain ⟨a2, c2, rfl, _⟩ := t1
  clear hrap t2 t3 D4 HD3 HU3 HT3 g1 hR1
  go_wp2_with fail
  go_at_call 15
  refine hnum.mono ?_
  rintro e w5 ⟨rfl, hw5⟩
  subst w5
  clear hnum
  go_wp2_with fail
  go_at_call 16
  refine heq.mono ?_
  rintro e w5 ⟨rfl, n5, rfl⟩
  have D5 := HD4.out.on ((Kept.refl [] w4).drewN n5)
  have HU5 : Hid (BytesAt (w4.drewN n5) (.slice au zs.length cu) zs) := HU4.out.drewN n5
  have HD5 : Hid _ := D5
  clear heq D5 HD4 HU4 hRl1
  generalize w4.drewN n5 = w5 at *
  obtain ⟨q1, q2, q3⟩ := own_facts HD5.out.box
  have g1 := q1 1
  simp at g1
  have hot2 := Other_any _ ds _ (HQ.out _ HD5.out.kept) hsd hod
  clear q1 q2
  go_wp2_with fail
  go_at_call 45
  refine hot2.mono ?_
  rintro e w6 ⟨u2, ms, rfl, hu2, hlm, hom, k6⟩
  obtain ⟨au2, cu2, rfl⟩ := own_shape hu2
  have D6 := HD5.out.on k6
  have hs5 := lt_of_block HD5.out.box
  have HUB2 : Hid (∀ x, blkOf (.slice au2 ms.length cu2) = some x → w.heap.size + 1 ≤ x) := fun x hx => by
    have h := (World.ownsRow.lt hu2 x (by rw [own_blk]; exact hx)).1
    omega
  have HU6 : Hid (BytesAt w6 (.slice au zs.length cu) zs) := HU5.out.kept k6 (fun _ _ => by simp)
  have HM6 : Hid (BytesAt w6 (.slice au2 ms.length cu2) ms) := hu2.bytes
  have hin2 := Into_any D6.ld HM6.out (fun _ x hx => by have := HUB2.out x hx; simp; omega) hlm.symm (by omega)
  have HLM : Hid (ms.length = ds.length) := hlm
  have HD6 : Hid _ := D6
  clear hot2 hu2 k6 D6 HD5 hlm HU5 g1 q3
  go_wp2_with fail
  go_at_call 46
  refine hin2.mono ?_
  rintro e w7 ⟨rfl, l7, k7⟩
  have D7 := HD6.out.intoD k7 l7
  obtain ⟨R2, hR2⟩ : ∃ R, Hid (R = applyL zs ms) := ⟨_, rfl⟩
  have hRl2 : R2.2.length ≤ 140737488355328 := by have h := applyL_len zs ms hom; rw [← hR2.out] at h; omega
  have happ2 := Apply_any D7.lb.bytes D7.ld.bytes hom (by have := HLM.out; omega) R2 hR2
  rw [HLZ.out, HLM.out] at happ2
  have HU7 : Hid (BytesAt w7 (.slice au zs.length cu) zs) := HU6.out.kept k7 (fun x hx => by have := HUB.out x hx; simp; omega)
  have HM7 : Hid (BytesAt w7 (.slice au2 ms.length cu2) ms) := HM6.out.kept k7 (fun x hx => by have := HUB2.out x hx; simp; omega)
  have HD7 : Hid _ := D7
  clear hin2 D7 k7 l7 HD6 HU6 HM6
  go_wp2_with fail
  go_at_call 14
  refine happ2.mono ?_
  rintro e w8 ⟨v3, rfl, t1, t2, t3⟩
  have D8 := HD7.out.on t2
  have HU8 : Hid (BytesAt w8 (.slice au zs.length cu) zs) := HU7.out.kept t2 (fun _ _ => by simp)
  have HM8 : Hid (BytesAt w8 (.slice au2 ms.length cu2) ms) := HM7.out.kept t2 (fun _ _ => by simp)
  have HT8 : Hid (BytesAt w8 v3 R2.2) := t1
  have hrap2 := RApply_any HU8.out hoz (by have := HLZ.out; omega) HM8.out hom (by have := HLM.out; omega) R2 hR2
  have HD8 : Hid _ := D8
  obtain ⟨a3, c3, rfl, _⟩ := t1
  clear happ2 t2 t3 D8 HD7 HU7 HM7
  go_wp2_with fail
  go_at_call 20
  refine hrap2.mono ?_
  rintro e w9 ⟨v4, rfl, t1, t2, t3⟩
  have D9 := HD8.out.on t2
  have HM9 : Hid (BytesAt w9 (.slice au2 ms.length cu2) ms) := HM8.out.kept t2 (fun _ _ => by simp)
  have HT9 : Hid (BytesAt w9 (.slice a3 R2.2.length c3) R2.2) := HT8.out.kept t2 (fun _ _ => by simp)
  have HV9 : Hid (BytesAt w9 v4 R2.2) := t1
  obtain ⟨h, hh⟩ : ∃ h, Hid (h = headL ms (fun _ => true)) := ⟨_, rfl⟩
  have hsz := Size_any D9.ld.bytes hom (by have := HLM.out; omega) h hh
  rw [HLM.out] at hsz
  have HD9 : Hid _ := D9
  obtain ⟨a4, c4, rfl, _⟩ := t1
  clear hrap2 t2 t3 D9 HD8 HU8 HM8 HT8 hR2
  go_wp2_with fail
  go_at_call 21
  refine hsz.mono ?_
  rintro e w10 ⟨rfl, k10⟩
  have hrsz := RSize_any (HM9.out.kept k10 (fun _ _ => by simp)) hom (by have := HLM.out; omega) h hh
  have HK10 : Hid (Kept [gb, gd] w w10) := HD9.out.kept.trans k10 (by simp)
  have HT10 : Hid (BytesAt w10 (.slice a3 R2.2.length c3) R2.2) := HT9.out.kept k10 (fun _ _ => by simp)
  have HV10 : Hid (BytesAt w10 (.slice a4 R2.2.length c4) R2.2) := HV9.out.kept k10 (fun _ _ => by simp)
  clear hsz k10 HD9 HM9 HT9 HV9 hh
  go_wp2_with fail
  go_at_call 22
  refine hrsz.mono ?_
  rintro e w11 ⟨rfl, k11⟩
  have HK11 : Hid (Kept [gb, gd] w w11) := HK10.out.trans k11 (by simp)
  have heq2 := Eq_same (HT10.out.kept k11 (fun _ _ => by simp)) (HV10.out.kept k11 (fun _ _ => by simp)) hRl2
  have hnum2 := num7_any R2.1 w11
  clear hrsz k11 HK10 HT10 HV10
  go_wp2_with fail
  go_at_call 15
  refine hnum2.mono ?_
  rintro e w12 ⟨rfl, hw12⟩
  subst w12
  clear hnum2
  go_wp2_with fail
  go_at_call 16
  refine heq2.mono ?_
  rintro e w12 ⟨rfl, n12, rfl⟩
  have hnum3 := num7_any h.err (w11.drewN n12)
  clear heq2
  go_wp2_with fail
  go_at_call 15
  refine hnum3.mono ?_
  rintro e w13 ⟨rfl, hw13⟩
  subst w13
  clear hnum3
  go_wp2
  go_ret
  exact ⟨rfl, HK11.out.drewN n12⟩
end Go.Proofs.Ytoohomfnbkdhfaa
