/-
  WALKS: satchellaw1.CodeReads, for every script.
-/
import Derived.Test.YtkhcofdcokngkaaCReads0
namespace Go.Proofs.Ytkhcofdcokngkaa
open Go.RowKit

/-- The script's own box and the two rows of pointers, as they lie on the way. -/
structure Laid (w wr : World) (sc : Array Value) (P0 P1 Q0 Q1 : Value) : Prop where
  kept : Kept [] w wr
  sb : wr.heap[w.heap.size]? = some (.cells sc 46 (0, 0))
  pb : wr.heap[w.heap.size + 1]? = some (.cells #[P0, P1] 54 (0, 0))
  qb : wr.heap[w.heap.size + 1 + 1]? = some (.cells #[Q0, Q1] 56 (0, 0))

theorem Laid.big {w wr : World} {sc : Array Value} {P0 P1 Q0 Q1 : Value} (L : Laid w wr sc P0 P1 Q0 Q1) : w.heap.size + 1 + 1 < wr.heap.size := lt_of_block L.qb
theorem Laid.on {w wr w' : World} {sc : Array Value} {P0 P1 Q0 Q1 : Value} {S : List Nat} (L : Laid w wr sc P0 P1 Q0 Q1) (k : Kept S wr w') (hS : ∀ x, x ∈ S → w.heap.size + 1 + 1 < x) : Laid w w' sc P0 P1 Q0 Q1 :=
  ⟨L.kept.trans k (fun x hx => Or.inr (by have := hS x hx; omega)), k.heap L.sb (fun h => by have := hS _ h; omega), k.heap L.pb (fun h => by have := hS _ h; omega), k.heap L.qb (fun h => by have := hS _ h; omega)⟩
theorem Laid.script {w wr : World} {sc : Array Value} {P0 P1 Q0 Q1 : Value} (L : Laid w wr sc P0 P1 Q0 Q1) : ∀ o, wr.cell? ⟨w.heap.size, o, none⟩ = sc[o]? := fun _ => cell_of_row _ _ _ _ _ _ L.sb
theorem Laid.cells {w wr : World} {sc : Array Value} {P0 P1 Q0 Q1 : Value} (L : Laid w wr sc P0 P1 Q0 Q1) :
    wr.cell? ⟨w.heap.size + 1, 0, none⟩ = some P0 ∧ wr.cell? ⟨w.heap.size + 1, 1, none⟩ = some P1 ∧ wr.cell? ⟨w.heap.size + 1 + 1, 0, none⟩ = some Q0 ∧ wr.cell? ⟨w.heap.size + 1 + 1, 1, none⟩ = some Q1 :=
  ⟨cell_of_row _ _ _ _ _ _ L.pb, cell_of_row _ _ _ _ _ _ L.pb, cell_of_row _ _ _ _ _ _ L.qb, cell_of_row _ _ _ _ _ _ L.qb⟩
theorem Laid.open' {w wr : World} {sc : Array Value} {P0 P1 Q0 Q1 : Value} (L : Laid w wr sc P0 P1 Q0 Q1) :
    (∀ o, wr.frozen? ⟨w.heap.size + 1, o, none⟩ = false) ∧ (∀ o, wr.frozen? ⟨w.heap.size + 1 + 1, o, none⟩ = false) :=
  ⟨fun _ => frozen_of_row _ _ _ _ _ L.pb, fun _ => frozen_of_row _ _ _ _ _ L.qb⟩
theorem Laid.setP0 {w wr : World} {sc : Array Value} {P0 P1 Q0 Q1 : Value} (L : Laid w wr sc P0 P1 Q0 Q1) (u : Value) : Laid w (wr.setCell ⟨w.heap.size + 1, 0, none⟩ u) sc u P1 Q0 Q1 :=
  ⟨L.kept.setCell (Or.inr (by simp)) u, (heap_setCell_other _ _ _ _ (by simp)).trans L.sb, two_set0 L.pb u, (heap_setCell_other _ _ _ _ (by simp)).trans L.qb⟩
theorem Laid.setP1 {w wr : World} {sc : Array Value} {P0 P1 Q0 Q1 : Value} (L : Laid w wr sc P0 P1 Q0 Q1) (u : Value) : Laid w (wr.setCell ⟨w.heap.size + 1, 1, none⟩ u) sc P0 u Q0 Q1 :=
  ⟨L.kept.setCell (Or.inr (by simp)) u, (heap_setCell_other _ _ _ _ (by simp)).trans L.sb, two_set1 L.pb u, (heap_setCell_other _ _ _ _ (by simp)).trans L.qb⟩
theorem Laid.setQ0 {w wr : World} {sc : Array Value} {P0 P1 Q0 Q1 : Value} (L : Laid w wr sc P0 P1 Q0 Q1) (u : Value) : Laid w (wr.setCell ⟨w.heap.size + 1 + 1, 0, none⟩ u) sc P0 P1 u Q1 :=
  ⟨L.kept.setCell (Or.inr (by simp; omega)) u, (heap_setCell_other _ _ _ _ (by simp; omega)).trans L.sb, (heap_setCell_other _ _ _ _ (by simp)).trans L.pb, two_set0 L.qb u⟩
theorem Laid.setQ1 {w wr : World} {sc : Array Value} {P0 P1 Q0 Q1 : Value} (L : Laid w wr sc P0 P1 Q0 Q1) (u : Value) : Laid w (wr.setCell ⟨w.heap.size + 1 + 1, 1, none⟩ u) sc P0 P1 Q0 u :=
  ⟨L.kept.setCell (Or.inr (by simp; omega)) u, (heap_setCell_other _ _ _ _ (by simp; omega)).trans L.sb, (heap_setCell_other _ _ _ _ (by simp)).trans L.pb, two_set1 L.qb u⟩

/-- Both pairs, on the way. -/
structure Both (w wv : World) (sc : Array Value) (xs ys : List Int) (lo hi lo' hi' r g b h r' g' b' h' : Nat) : Prop where
  L : Laid w wv sc (.pointer (some ⟨r, 0, none⟩)) (.pointer (some ⟨r', 0, none⟩)) (.pointer (some ⟨b, 0, none⟩)) (.pointer (some ⟨b', 0, none⟩))
  P : PairIn wv lo hi (.pointer (some ⟨r, 0, none⟩)) (.pointer (some ⟨b, 0, none⟩)) xs r g b h
  P' : PairIn wv lo' hi' (.pointer (some ⟨r', 0, none⟩)) (.pointer (some ⟨b', 0, none⟩)) ys r' g' b' h'
  lo0 : w.heap.size + 1 + 1 < lo
  hi0 : hi ≤ lo'

theorem Both.step0 {w wv w7 : World} {sc : Array Value} {xs ys : List Int} {lo hi lo' hi' r g b h r' g' b' h' : Nat} (B : Both w wv sc xs ys lo hi lo' hi' r g b h r' g' b' h') (k : Kept [r, b] wv w7) (hp : ∃ pl f, Pair w7 r g b h xs pl f) :
    Both w w7 sc xs ys lo hi lo' hi' r g b h r' g' b' h' := by
  have h1 := B.lo0
  have h2 := B.hi0
  obtain ⟨a1, a2, a3, a4, a5, a6, a7, a8, a9, a10, a11⟩ := B.P
  exact ⟨B.L.on k (by simp; omega), ⟨a1, a2, hp, a4, a5, a6, a7, a8, a9, a10, a11⟩, B.P'.kept k (by simp; omega), h1, h2⟩
theorem Both.step1 {w wv w7 : World} {sc : Array Value} {xs ys : List Int} {lo hi lo' hi' r g b h r' g' b' h' : Nat} (B : Both w wv sc xs ys lo hi lo' hi' r g b h r' g' b' h') (k : Kept [r', b'] wv w7) (hp : ∃ pl f, Pair w7 r' g' b' h' ys pl f) :
    Both w w7 sc xs ys lo hi lo' hi' r g b h r' g' b' h' := by
  have h1 := B.lo0
  have h2 := B.hi0
  have h3 := B.P.r0
  have h4 := B.P.r1
  obtain ⟨a1, a2, a3, a4, a5, a6, a7, a8, a9, a10, a11⟩ := B.P'
  exact ⟨B.L.on k (by simp; omega), B.P.kept k (by simp; omega), ⟨a1, a2, hp, a4, a5, a6, a7, a8, a9, a10, a11⟩, h1, h2⟩

abbrev nilp : Value := .pointer none
/-- How far the first loop has come. -/
inductive Come (w wr : World) (sc : Array Value) (xs ys : List Int) : Value → Prop where
  | zero (L : Laid w wr sc nilp nilp nilp nilp) : Come w wr sc xs ys (.int .i64 0)
  | one (P0 Q0 : Value) (lo hi r g b h : Nat) (L : Laid w wr sc P0 nilp Q0 nilp) (P : PairIn wr lo hi P0 Q0 xs r g b h) (h0 : w.heap.size + 1 + 1 < lo) (h1 : hi ≤ wr.heap.size) : Come w wr sc xs ys (.int .i64 1)
  | two (P0 Q0 P1 Q1 : Value) (lo hi r g b h lo' hi' r' g' b' h' : Nat) (L : Laid w wr sc P0 P1 Q0 Q1) (P : PairIn wr lo hi P0 Q0 xs r g b h) (P' : PairIn wr lo' hi' P1 Q1 ys r' g' b' h') (h0 : w.heap.size + 1 + 1 < lo) (h1 : hi ≤ lo') : Come w wr sc xs ys (.int .i64 2)

set_option maxRecDepth 100000 in
set_option maxHeartbeats 4000000 in
theorem creads_any (w : World) (ao0 ao1 ao2 : Option Addr) (c0 c1 c2 : Nat) (xs ys : List Int) (ops : List COp) (hb0 : BytesAt w (.slice ao0 xs.length c0) xs) (ho0 : Octs xs) (hs0 : xs.length ≤ 140737488351232)
    (hb1 : BytesAt w (.slice ao1 ys.length c1) ys) (ho1 : Octs ys) (hs1 : ys.length ≤ 140737488351232) (hops : OpsAt w (.slice ao2 ops.length c2) ops) (hgd : ∀ o, o ∈ ops → COp.Good o w) :
    Calls Try.prog 5 #[.agg #[.slice ao0 xs.length c0, .slice ao1 ys.length c1, .slice ao2 ops.length c2]] w fun e w' => e = .returned (.bool true) ∧ Kept [] w w' := by
  go_enter Try.func5, Try.ntmps5
  go_wp2
  go_loopw [5] (fun i wr => Come w wr #[.slice ao0 xs.length c0, .slice ao1 ys.length c1, .slice ao2 ops.length c2] xs ys i) (fun i _ => 2 - (intOf i).toNat)
  case atStart =>
    refine .zero ⟨(((Kept.refl _ _).alloc _).alloc _).alloc _, ?_, ?_, ?_⟩
    · rw [Below.heap_alloc _ _ _ (by simp; omega), Below.heap_alloc _ _ _ (by simp)]
      exact heap_alloc_new w _
    · rw [Below.heap_alloc _ _ _ (by simp)]
      have := heap_alloc_new (w.alloc (.cells #[.slice ao0 xs.length c0, .slice ao1 ys.length c1, .slice ao2 ops.length c2] 46)) (.cells #[nilp, nilp] 54)
      rwa [show (w.alloc (.cells #[.slice ao0 xs.length c0, .slice ao1 ys.length c1, .slice ao2 ops.length c2] 46)).heap.size = w.heap.size + 1 by simp] at this
    · have := heap_alloc_new ((w.alloc (.cells #[.slice ao0 xs.length c0, .slice ao1 ys.length c1, .slice ao2 ops.length c2] 46)).alloc (.cells #[nilp, nilp] 54)) (.cells #[nilp, nilp] 56)
      rwa [show ((w.alloc (.cells #[.slice ao0 xs.length c0, .slice ao1 ys.length c1, .slice ao2 ops.length c2] 46)).alloc (.cells #[nilp, nilp] 54)).heap.size = w.heap.size + 1 + 1 by simp] at this
  case round =>
    cases hrel with
    | zero L =>
      obtain ⟨wo, hwo⟩ : ∃ x, x = wr := ⟨_, rfl⟩
      subst hwo
      have hlend := Lend_any _ xs wo (hb0.kept L.kept (fun _ _ => by simp)) hs0
      have hsc := L.script
      have hbig := L.big
      have HL : Hid (Laid w wo #[.slice ao0 xs.length c0, .slice ao1 ys.length c1, .slice ao2 ops.length c2] nilp nilp nilp nilp) := L
      clear L
      go_wp2_with (first
        | (go_at_call 23; refine hlend.mono ?_; rintro e w1 ⟨gl, capl, rfl, hl, hk1⟩
           have L1 := HL.out.on hk1 (by simp)
           have hsc1 := L1.script
           have hrd := Read_any _ xs w1 hl.bytes (by omega) ho0
           have z1 := hk1.size
           obtain ⟨_, _, hgl0, hgl1⟩ := hl.room
           have HL1 : Hid _ := L1
           have HK1 : Hid (Kept [w.heap.size + 1, w.heap.size + 1 + 1] wo w1) := hk1.more (by simp)
           have HLe : Hid (Lent w1 wo.heap.size gl capl xs) := hl
           clear hk1 L1 hl hlend)
        | (go_at_call 15; refine hrd.mono ?_; rintro e w2 ⟨r, g, rfl, R, hk2, hr, hg⟩
           have L2 := HL1.out.on hk2 (by simp)
           have HLe2 : Hid (Lent w2 wo.heap.size gl capl xs) := Lent.kept HLe.out hk2 (by simp)
           obtain ⟨c00, c01, c10, c11⟩ := L2.cells
           obtain ⟨f0, f1⟩ := L2.open'
           have hsc2 := L2.script
           have z2 := hk2.size
           have HR : Hid _ := R
           have HK2 : Hid (Kept [w.heap.size + 1, w.heap.size + 1 + 1] wo (w2.setCell ⟨w.heap.size + 1, 0, none⟩ (.pointer (some ⟨r, 0, none⟩)))) := (HK1.out.then (hk2.more (by simp))).setCell (Or.inl (by simp)) _
           have HL2 : Hid (Laid w (w2.setCell ⟨w.heap.size + 1, 0, none⟩ (.pointer (some ⟨r, 0, none⟩))) _ (.pointer (some ⟨r, 0, none⟩)) nilp nilp nilp) := L2.setP0 _
           have r1 := lt_of_block R.blk
           have g1 := lt_of_block R.row
           clear hk2 R L2 hrd))
      refine (Copy_any _ xs _ (hb0.kept HL2.out.kept (fun _ _ => by simp)) (by omega)).mono ?_
      rintro e w3 ⟨rfl, hq, hk3⟩
      have hq' : w3.heap[w2.heap.size]? = some (.cells (xs.map (Value.int .u8)).toArray 5 (0, 0)) := by
        have e0 : (w2.setCell ⟨w.heap.size + 1, 0, none⟩ (.pointer (some ⟨r, 0, none⟩))).heap.size = w2.heap.size := by simp
        rw [e0] at hq; exact hq
      have z3 := lt_of_block hq'
      have HLe3 : Hid (Lent w3 wo.heap.size gl capl xs) := Lent.kept (Lent.kept (T := [w.heap.size + 1]) HLe2.out ((Kept.refl _ _).setCell (Or.inl (by simp)) _) (by simp; omega)) hk3 (by simp)
      have HR3 : Hid (Rdr w3 r g xs 0 0) := (HR.out.kept (S := [w.heap.size + 1]) ((Kept.refl _ _).setCell (Or.inl (by simp)) _) (by simp; omega) (by simp; omega)).kept hk3 (by simp) (by simp)
      have L3 := HL2.out.on hk3 (by simp)
      have HK3 : Hid (Kept [w.heap.size + 1, w.heap.size + 1 + 1] wo w3) := HK2.out.then (hk3.more (by simp))
      clear c00 c01 c10 c11 f0 f1 hsc2 HK2 HL2 HLe2 HLe HR HL1 HK1 hsc1
      obtain ⟨c00, c01, c10, c11⟩ := L3.cells
      obtain ⟨f0, f1⟩ := L3.open'
      have hsc3 := L3.script
      have b3 := L3.big
      have b2 : w.heap.size + 1 < w3.heap.size := by omega
      have b1 : w.heap.size < w3.heap.size := by omega
      have HL5 : Hid (Laid w ((w3.setCell ⟨w.heap.size + 1 + 1, 0, none⟩ (.pointer (some ⟨w3.heap.size, 0, none⟩))).alloc (.cells #[.slice (some ⟨w2.heap.size, 0, none⟩) xs.length xs.length, .int .i64 0, .int .i64 0] 58)) _ (.pointer (some ⟨r, 0, none⟩)) nilp (.pointer (some ⟨w3.heap.size, 0, none⟩)) nilp) := (L3.setQ0 _).on ((Kept.refl [] _).alloc _) (by simp)
      have kk : Kept [w.heap.size + 1 + 1] w3 ((w3.setCell ⟨w.heap.size + 1 + 1, 0, none⟩ (.pointer (some ⟨w3.heap.size, 0, none⟩))).alloc (.cells #[.slice (some ⟨w2.heap.size, 0, none⟩) xs.length xs.length, .int .i64 0, .int .i64 0] 58)) := ((Kept.refl _ _).setCell (Or.inl (by simp)) _).alloc _
      have HK5 : Hid (Kept [w.heap.size + 1, w.heap.size + 1 + 1] wo ((w3.setCell ⟨w.heap.size + 1 + 1, 0, none⟩ (.pointer (some ⟨w3.heap.size, 0, none⟩))).alloc (.cells #[.slice (some ⟨w2.heap.size, 0, none⟩) xs.length xs.length, .int .i64 0, .int .i64 0] 58))) := HK3.out.then (kk.more (by simp))
      have HLe5 : Hid (Lent ((w3.setCell ⟨w.heap.size + 1 + 1, 0, none⟩ (.pointer (some ⟨w3.heap.size, 0, none⟩))).alloc (.cells #[.slice (some ⟨w2.heap.size, 0, none⟩) xs.length xs.length, .int .i64 0, .int .i64 0] 58)) wo.heap.size gl capl xs) := Lent.kept HLe3.out kk (by simp; omega)
      have HP5 : Hid (Pair ((w3.setCell ⟨w.heap.size + 1 + 1, 0, none⟩ (.pointer (some ⟨w3.heap.size, 0, none⟩))).alloc (.cells #[.slice (some ⟨w2.heap.size, 0, none⟩) xs.length xs.length, .int .i64 0, .int .i64 0] 58)) r g w3.heap.size w2.heap.size xs 0 0) :=
        ⟨HR3.out.kept kk (by simp; omega) (by simp; omega), by
          have e0 : (w3.setCell ⟨w.heap.size + 1 + 1, 0, none⟩ (.pointer (some ⟨w3.heap.size, 0, none⟩))).heap.size = w3.heap.size := by simp
          have e1 := eye_new ((heap_setCell_other w3 ⟨w.heap.size + 1 + 1, 0, none⟩ w2.heap.size (.pointer (some ⟨w3.heap.size, 0, none⟩)) (by simp; omega)).trans hq') (by omega) ho0
          rwa [e0] at e1, by omega, by omega, by omega⟩
      clear hk3 L3 hq hq' kk HK3 HR3 HLe3
      go_wp2_with fail
      go_at_call 24
      refine (Intact_any HLe5.out (hb0.kept HL5.out.kept (fun _ _ => by simp)) hs0).mono ?_
      rintro e w5 ⟨rfl, hw5⟩
      have L5 := HL5.out
      have P5 := HP5.out
      have K5 := HK5.out
      have Wd := HLe5.out.wide
      rw [← hw5] at L5 P5 K5 Wd
      have z5 : w3.heap.size < w5.heap.size := by rw [hw5]; simp
      clear HL5 HP5 HK5 HLe5 c00 c01 c10 c11 f0 f1 hsc3 b1 b2 b3 hw5 HL hsc
      go_wp2
      go_loopw [7] (fun i wv => ∃ j : Nat, j ≤ xs.length ∧ i = .int .i64 j ∧ Kept [gl] w5 wv ∧ Hid (Wide wv gl xs.length)) (fun i _ => xs.length - (intOf i).toNat)
      case atStart => exact ⟨0, Nat.zero_le _, rfl, Kept.refl _ _, Wd⟩
      case round =>
        clear Wd
        obtain ⟨j, hj, rfl, hkv, HWd⟩ := hrel
        by_cases hlt : j < xs.length
        · obtain ⟨⟨u, hu⟩, hfz⟩ := HWd.out.cell j hlt
          go_wp2
          go_roundw
          case rel => exact ⟨j + 1, by omega, by go_num, hkv.setCell (Or.inl (by simp)) _, HWd.out.set j _⟩
          case measure => simp [intOf]; omega
        · have Lv := L5.on hkv (by simp; omega)
          have Pv := P5.kept hkv (by simp; omega) (by simp; omega) (by simp; omega) (by simp; omega)
          have hleft := fun n => Left_any (Pv.box ((Kept.refl _ _).drewN n)).rd
          have hsc5 := Lv.script
          obtain ⟨c00, c01, c10, c11⟩ := Lv.cells
          have z6 := hkv.size
          have HLv : Hid _ := Lv
          have HPv : Hid _ := Pv
          have HKv : Hid _ := hkv
          clear Lv Pv hkv P5 L5 HWd
          go_wp2
          go_quiet (first | (go_at_call 20; refine Calls.quiet_of (hleft _)))
          go_wp2
          go_roundw
          case rel =>
            exact .one _ _ w1.heap.size w5.heap.size r g _ _ (HLv.out.on ((Kept.refl [] _).drewN _) (by simp)) ⟨rfl, rfl, ⟨_, _, HPv.out.box ((Kept.refl _ _).drewN _)⟩, by omega, by omega, by omega, by omega, by omega, by omega, by omega, by omega⟩ (by omega) (by simp; omega)
          case measure => simp [intOf]

    | one P0 Q0 lo hi r0 g0 b0 h0' L P h0 h1 =>
      obtain ⟨wo, hwo⟩ : ∃ x, x = wr := ⟨_, rfl⟩
      subst hwo
      have hlend := Lend_any _ ys wo (hb1.kept L.kept (fun _ _ => by simp)) hs1
      have hsc := L.script
      have hbig := L.big
      have HL : Hid (Laid w wo #[.slice ao0 xs.length c0, .slice ao1 ys.length c1, .slice ao2 ops.length c2] P0 nilp Q0 nilp) := L
      clear L
      go_wp2_with (first
        | (go_at_call 23; refine hlend.mono ?_; rintro e w1 ⟨gl, capl, rfl, hl, hk1⟩
           have L1 := HL.out.on hk1 (by simp)
           have hsc1 := L1.script
           have hrd := Read_any _ ys w1 hl.bytes (by omega) ho1
           have z1 := hk1.size
           obtain ⟨_, _, hgl0, hgl1⟩ := hl.room
           have HL1 : Hid _ := L1
           have HK1 : Hid (Kept [w.heap.size + 1, w.heap.size + 1 + 1] wo w1) := hk1.more (by simp)
           have HLe : Hid (Lent w1 wo.heap.size gl capl ys) := hl
           clear hk1 L1 hl hlend)
        | (go_at_call 15; refine hrd.mono ?_; rintro e w2 ⟨r, g, rfl, R, hk2, hr, hg⟩
           have L2 := HL1.out.on hk2 (by simp)
           have HLe2 : Hid (Lent w2 wo.heap.size gl capl ys) := Lent.kept HLe.out hk2 (by simp)
           obtain ⟨c00, c01, c10, c11⟩ := L2.cells
           obtain ⟨f0, f1⟩ := L2.open'
           have hsc2 := L2.script
           have z2 := hk2.size
           have HR : Hid _ := R
           have HK2 : Hid (Kept [w.heap.size + 1, w.heap.size + 1 + 1] wo (w2.setCell ⟨w.heap.size + 1, 1, none⟩ (.pointer (some ⟨r, 0, none⟩)))) := (HK1.out.then (hk2.more (by simp))).setCell (Or.inl (by simp)) _
           have HL2 : Hid (Laid w (w2.setCell ⟨w.heap.size + 1, 1, none⟩ (.pointer (some ⟨r, 0, none⟩))) _ P0 (.pointer (some ⟨r, 0, none⟩)) Q0 nilp) := L2.setP1 _
           have r1 := lt_of_block R.blk
           have g1 := lt_of_block R.row
           clear hk2 R L2 hrd))
      refine (Copy_any _ ys _ (hb1.kept HL2.out.kept (fun _ _ => by simp)) (by omega)).mono ?_
      rintro e w3 ⟨rfl, hq, hk3⟩
      have hq' : w3.heap[w2.heap.size]? = some (.cells (ys.map (Value.int .u8)).toArray 5 (0, 0)) := by
        have e0 : (w2.setCell ⟨w.heap.size + 1, 1, none⟩ (.pointer (some ⟨r, 0, none⟩))).heap.size = w2.heap.size := by simp
        rw [e0] at hq; exact hq
      have z3 := lt_of_block hq'
      have HLe3 : Hid (Lent w3 wo.heap.size gl capl ys) := Lent.kept (Lent.kept (T := [w.heap.size + 1]) HLe2.out ((Kept.refl _ _).setCell (Or.inl (by simp)) _) (by simp; omega)) hk3 (by simp)
      have HR3 : Hid (Rdr w3 r g ys 0 0) := (HR.out.kept (S := [w.heap.size + 1]) ((Kept.refl _ _).setCell (Or.inl (by simp)) _) (by simp; omega) (by simp; omega)).kept hk3 (by simp) (by simp)
      have L3 := HL2.out.on hk3 (by simp)
      have HK3 : Hid (Kept [w.heap.size + 1, w.heap.size + 1 + 1] wo w3) := HK2.out.then (hk3.more (by simp))
      clear c00 c01 c10 c11 f0 f1 hsc2 HK2 HL2 HLe2 HLe HR HL1 HK1 hsc1
      obtain ⟨c00, c01, c10, c11⟩ := L3.cells
      obtain ⟨f0, f1⟩ := L3.open'
      have hsc3 := L3.script
      have b3 := L3.big
      have b2 : w.heap.size + 1 < w3.heap.size := by omega
      have b1 : w.heap.size < w3.heap.size := by omega
      have HL5 : Hid (Laid w ((w3.setCell ⟨w.heap.size + 1 + 1, 1, none⟩ (.pointer (some ⟨w3.heap.size, 0, none⟩))).alloc (.cells #[.slice (some ⟨w2.heap.size, 0, none⟩) ys.length ys.length, .int .i64 0, .int .i64 0] 58)) _ P0 (.pointer (some ⟨r, 0, none⟩)) Q0 (.pointer (some ⟨w3.heap.size, 0, none⟩))) := (L3.setQ1 _).on ((Kept.refl [] _).alloc _) (by simp)
      have kk : Kept [w.heap.size + 1 + 1] w3 ((w3.setCell ⟨w.heap.size + 1 + 1, 1, none⟩ (.pointer (some ⟨w3.heap.size, 0, none⟩))).alloc (.cells #[.slice (some ⟨w2.heap.size, 0, none⟩) ys.length ys.length, .int .i64 0, .int .i64 0] 58)) := ((Kept.refl _ _).setCell (Or.inl (by simp)) _).alloc _
      have HK5 : Hid (Kept [w.heap.size + 1, w.heap.size + 1 + 1] wo ((w3.setCell ⟨w.heap.size + 1 + 1, 1, none⟩ (.pointer (some ⟨w3.heap.size, 0, none⟩))).alloc (.cells #[.slice (some ⟨w2.heap.size, 0, none⟩) ys.length ys.length, .int .i64 0, .int .i64 0] 58))) := HK3.out.then (kk.more (by simp))
      have HLe5 : Hid (Lent ((w3.setCell ⟨w.heap.size + 1 + 1, 1, none⟩ (.pointer (some ⟨w3.heap.size, 0, none⟩))).alloc (.cells #[.slice (some ⟨w2.heap.size, 0, none⟩) ys.length ys.length, .int .i64 0, .int .i64 0] 58)) wo.heap.size gl capl ys) := Lent.kept HLe3.out kk (by simp; omega)
      have HP5 : Hid (Pair ((w3.setCell ⟨w.heap.size + 1 + 1, 1, none⟩ (.pointer (some ⟨w3.heap.size, 0, none⟩))).alloc (.cells #[.slice (some ⟨w2.heap.size, 0, none⟩) ys.length ys.length, .int .i64 0, .int .i64 0] 58)) r g w3.heap.size w2.heap.size ys 0 0) :=
        ⟨HR3.out.kept kk (by simp; omega) (by simp; omega), by
          have e0 : (w3.setCell ⟨w.heap.size + 1 + 1, 1, none⟩ (.pointer (some ⟨w3.heap.size, 0, none⟩))).heap.size = w3.heap.size := by simp
          have e1 := eye_new ((heap_setCell_other w3 ⟨w.heap.size + 1 + 1, 1, none⟩ w2.heap.size (.pointer (some ⟨w3.heap.size, 0, none⟩)) (by simp; omega)).trans hq') (by omega) ho1
          rwa [e0] at e1, by omega, by omega, by omega⟩
      clear hk3 L3 hq hq' kk HK3 HR3 HLe3
      go_wp2_with fail
      go_at_call 24
      refine (Intact_any HLe5.out (hb1.kept HL5.out.kept (fun _ _ => by simp)) hs1).mono ?_
      rintro e w5 ⟨rfl, hw5⟩
      have L5 := HL5.out
      have P5 := HP5.out
      have K5 := HK5.out
      have Wd := HLe5.out.wide
      rw [← hw5] at L5 P5 K5 Wd
      have z5 : w3.heap.size < w5.heap.size := by rw [hw5]; simp
      clear HL5 HP5 HK5 HLe5 c00 c01 c10 c11 f0 f1 hsc3 b1 b2 b3 hw5 HL hsc
      go_wp2
      go_loopw [7] (fun i wv => ∃ j : Nat, j ≤ ys.length ∧ i = .int .i64 j ∧ Kept [gl] w5 wv ∧ Hid (Wide wv gl ys.length)) (fun i _ => ys.length - (intOf i).toNat)
      case atStart => exact ⟨0, Nat.zero_le _, rfl, Kept.refl _ _, Wd⟩
      case round =>
        clear Wd
        obtain ⟨j, hj, rfl, hkv, HWd⟩ := hrel
        by_cases hlt : j < ys.length
        · obtain ⟨⟨u, hu⟩, hfz⟩ := HWd.out.cell j hlt
          go_wp2
          go_roundw
          case rel => exact ⟨j + 1, by omega, by go_num, hkv.setCell (Or.inl (by simp)) _, HWd.out.set j _⟩
          case measure => simp [intOf]; omega
        · have Lv := L5.on hkv (by simp; omega)
          have Pv := P5.kept hkv (by simp; omega) (by simp; omega) (by simp; omega) (by simp; omega)
          have hleft := fun n => Left_any (Pv.box ((Kept.refl _ _).drewN n)).rd
          have hsc5 := Lv.script
          obtain ⟨c00, c01, c10, c11⟩ := Lv.cells
          have z6 := hkv.size
          have HLv : Hid _ := Lv
          have HPv : Hid _ := Pv
          have HKv : Hid _ := hkv
          clear Lv Pv hkv P5 L5 HWd
          go_wp2
          go_quiet (first | (go_at_call 20; refine Calls.quiet_of (hleft _)))
          go_wp2
          go_roundw
          case rel =>
            exact .two _ _ _ _ lo hi r0 g0 b0 h0' w1.heap.size w5.heap.size r g _ _ (HLv.out.on ((Kept.refl [] _).drewN _) (by simp)) (((P.kept K5 (by simp; omega)).kept HKv.out (by simp; omega)).kept (S := []) ((Kept.refl _ _).drewN _) (by simp)) ⟨rfl, rfl, ⟨_, _, HPv.out.box ((Kept.refl _ _).drewN _)⟩, by omega, by omega, by omega, by omega, by omega, by omega, by omega, by omega⟩ h0 (by omega)
          case measure => simp [intOf]

    | two P0 Q0 P1 Q1 lo hi r g b h lo' hi' r' g' b' h' L P P' h0 h1 =>
      obtain ⟨wo, hwo⟩ : ∃ x, x = wr := ⟨_, rfl⟩
      subst hwo
      obtain ⟨ao, cap, hv, hl, hc⟩ := hops
      simp only [Value.slice.injEq] at hv
      obtain ⟨rfl, _, rfl⟩ := hv
      obtain rfl := P.pe
      obtain rfl := P.qe
      obtain rfl := P'.pe
      obtain rfl := P'.qe
      go_wp2
      go_loopw [8] (fun i wv => ∃ k : Nat, k ≤ ops.length ∧ i = .int .i64 k ∧ Hid (Both w wv #[.slice ao0 xs.length c0, .slice ao1 ys.length c1, .slice ao2 ops.length c2] xs ys lo hi lo' hi' r g b h r' g' b' h')) (fun i _ => ops.length - (intOf i).toNat)
      case atStart => exact ⟨0, Nat.zero_le _, rfl, ⟨L, P, P', h0, h1⟩⟩
      case round =>
        clear L P P'
        obtain ⟨k, hkk, rfl, HB⟩ := hrel
        have hsc := HB.out.L.script
        have hbig := HB.out.L.big
        have b2 : w.heap.size + 1 < wr.heap.size := by omega
        have b1 : w.heap.size < wr.heap.size := by omega
        have KW := HB.out.L.kept
        obtain ⟨c00, c01, c10, c11⟩ := HB.out.L.cells
        by_cases hgo : k < ops.length ∧ k < 400
        · obtain ⟨hlt, h400⟩ := hgo
          obtain ⟨b2, off2, rfl, hops⟩ := hc (by rintro rfl; simp at hlt)
          obtain ⟨o, hko⟩ : ∃ o, ops[k]? = some o := ⟨_, List.getElem?_eq_getElem hlt⟩
          have hgo := hgd o (List.mem_of_getElem? hko)
          obtain ⟨q0, q1, q2, q3, q4⟩ := hops k o hko
          replace q0 := KW.cell q0 (by simp)
          replace q1 := KW.cell q1 (by simp)
          replace q2 := KW.cell q2 (by simp)
          replace q3 := KW.cell q3 (by simp)
          replace q4 := KW.cell q4 (by simp)
          have hinto := fun W => into_any o.which 2 W (by decide) (by decide) hgo.which0 hgo.which1
          clear hko hops hgd hc KW
          by_cases hw : o.which % 2 = 0
          · rw [hw] at hinto
            have HRD : Hid (Calls Try.prog 25 #[.pointer (some ⟨r, 0, none⟩), .pointer (some ⟨b, 0, none⟩), .agg #[.int .i64 o.kind, .int .i64 o.which, .int .i64 o.m, .int .u64 o.n, .slice o.ao o.b.length o.cap]] (wr.alloc (.cells #[.int .i64 o.kind, .int .i64 o.which, .int .i64 o.m, .int .u64 o.n, .slice o.ao o.b.length o.cap] 50)).drew fun e w' => ReadsTo (wr.alloc (.cells #[.int .i64 o.kind, .int .i64 o.which, .int .i64 o.m, .int .u64 o.n, .slice o.ao o.b.length o.cap] 50)).drew w' r g b h xs e) := by
              obtain ⟨pl, f, P⟩ := HB.out.P.pair
              exact reads_any (P.box ((Kept.refl _ _).alloc _).drew) _ _ _ _ _ _ _ hgo.m0 hgo.m1 hgo.n1
            clear hgo
            go_wp2_with (go_at_call 9; refine (hinto _).mono ?_; rintro e w6 ⟨rfl, rfl⟩)
            go_region_with (go_at_call 25; refine HRD.out.mono ?_; rintro e w7 ⟨⟨res, rfl, rfl⟩, hp, hk7⟩; have HB7 : Hid _ := HB.out.step0 (((Kept.refl _ wr).alloc _).then hk7.undraw) hp; clear hp hk7)
            all_goals go_wp2
            all_goals go_roundw
            all_goals first
              | exact ⟨k + 1, by omega, by go_num, HB7⟩
              | (simp [intOf]; omega)
          · rw [show o.which % 2 = 1 by omega] at hinto
            have HRD : Hid (Calls Try.prog 25 #[.pointer (some ⟨r', 0, none⟩), .pointer (some ⟨b', 0, none⟩), .agg #[.int .i64 o.kind, .int .i64 o.which, .int .i64 o.m, .int .u64 o.n, .slice o.ao o.b.length o.cap]] (wr.alloc (.cells #[.int .i64 o.kind, .int .i64 o.which, .int .i64 o.m, .int .u64 o.n, .slice o.ao o.b.length o.cap] 50)).drew fun e w' => ReadsTo (wr.alloc (.cells #[.int .i64 o.kind, .int .i64 o.which, .int .i64 o.m, .int .u64 o.n, .slice o.ao o.b.length o.cap] 50)).drew w' r' g' b' h' ys e) := by
              obtain ⟨pl, f, P⟩ := HB.out.P'.pair
              exact reads_any (P.box ((Kept.refl _ _).alloc _).drew) _ _ _ _ _ _ _ hgo.m0 hgo.m1 hgo.n1
            clear hgo
            go_wp2_with (go_at_call 9; refine (hinto _).mono ?_; rintro e w6 ⟨rfl, rfl⟩)
            go_region_with (go_at_call 25; refine HRD.out.mono ?_; rintro e w7 ⟨⟨res, rfl, rfl⟩, hp, hk7⟩; have HB7 : Hid _ := HB.out.step1 (((Kept.refl _ wr).alloc _).then hk7.undraw) hp; clear hp hk7)
            all_goals go_wp2
            all_goals go_roundw
            all_goals first
              | exact ⟨k + 1, by omega, by go_num, HB7⟩
              | (simp [intOf]; omega)
        · obtain ⟨pl, f, P⟩ := HB.out.P.pair
          obtain ⟨pl', f', P'⟩ := HB.out.P'.pair
          obtain ⟨d0, d1, d2, d3, d4⟩ := P.eye.facts
          have hat := fun n => At_any (P.box ((Kept.refl _ _).drewN n)).rd
          have hfault := fun n => Fault_any (P.box ((Kept.refl _ _).drewN n)).rd P.eye.bad
          have hend := fun n => End_any (P'.box ((Kept.refl _ _).drewN n)).rd P'.eye.bad
          have hee := fun n => EEnd_any (P'.eye.drewN n)
          clear P P' HB hc hgd
          generalize (if f' ≠ 0 then errL f' else if pl' < ys.length then 13 else 0) = z at *
          generalize errL f = zz at *
          by_cases hlt : k < ops.length
          · have h4 : ¬ k < 400 := fun h => hgo ⟨hlt, h⟩
            clear hgo
            go_wp2
            go_quiet (first
              | (go_at_call 26; refine Calls.quiet_of_same (hat _))
              | (go_at_call 28; refine Calls.quiet_of_same (hfault _))
              | (go_at_call 29; refine Calls.quiet_of (hend _))
              | (go_at_call 27; refine Calls.quiet_of_same (num_any _ _))
              | (go_at_call 30; refine Calls.quiet_of (hee _)))
            go_wp2
            go_ret
            exact ⟨by simp, KW.drewN _⟩
          · clear hgo
            go_wp2
            go_quiet (first
              | (go_at_call 26; refine Calls.quiet_of_same (hat _))
              | (go_at_call 28; refine Calls.quiet_of_same (hfault _))
              | (go_at_call 29; refine Calls.quiet_of (hend _))
              | (go_at_call 27; refine Calls.quiet_of_same (num_any _ _))
              | (go_at_call 30; refine Calls.quiet_of (hee _)))
            go_wp2
            go_ret
            exact ⟨by simp, KW.drewN _⟩
end Go.Proofs.Ytkhcofdcokngkaa
