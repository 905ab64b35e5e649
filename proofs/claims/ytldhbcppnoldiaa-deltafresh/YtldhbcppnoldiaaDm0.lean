/-
  WALK: satchellaw7.remade.
-/
import Derived.Test.YtldhbcppnoldiaaMn10
import Derived.Test.YtldhbcppnoldiaaDsO
import Derived.Test.YtldhbcppnoldiaaBd
import Derived.Test.YtldhbcppnoldiaaDlLv
import Derived.Test.YtldhbcppnoldiaaBk0
namespace Go.Proofs.Ytldhbcppnoldiaa
open Go.RowKit

/-- The delta that Make writes. -/
def dlL (bs ts : List Int) : List Int := delL bs ts (makeL bs ts)
/-- Make's answer for two lists that are short enough. -/
structure MadeTo (w w' : World) (bs ts : List Int) (e : Ending) : Prop where
  kept : Kept [] w w'
  ends : ∃ q, e = .returned (.tuple #[.slice (some ⟨q, 0, none⟩) (dlL bs ts).length (dlL bs ts).length, .int .i64 0]) ∧ w'.heap[q]? = some (.cells ((dlL bs ts).map (Value.int .u8)).toArray 5 (0, 0)) ∧ w.heap.size ≤ q
  app : applyL bs (dlL bs ts) = (0, ts)
  head : headL (dlL bs ts) (fun _ => true) = ⟨0, bs.length, ts.length, wd bs.length + wd ts.length⟩
  octs : Octs (dlL bs ts)
  short : ∀ p s, LcpIs bs ts p → LcsIs (bs.drop p) (ts.drop p) s → (dlL bs ts).length + p + s ≤ ts.length + 32
theorem Make_ok {w : World} {ab ad : Option Addr} {cb ct : Nat} {bs ts : List Int} (hb : BytesAt w (.slice ab bs.length cb) bs) (hob : Octs bs) (hsb : bs.length ≤ 65536) (ht : BytesAt w (.slice ad ts.length ct) ts) (hot : Octs ts) (hst : ts.length ≤ 65536) :
    Calls Try.prog 22 #[.slice ab bs.length cb, .slice ad ts.length ct] w fun e w' => MadeTo w w' bs ts e := by
  refine (Make_any hb hob (by omega) ht hot (by omega)).mono ?_
  rintro e w1 ⟨k, _, hok⟩
  obtain ⟨q, cs, rfl, hq, hqn, hcs, htx, hsh, hE⟩ := hok hsb hst
  subst hE
  have hap := apply_del bs ts _ [] hsb hst hcs htx
  rw [List.append_nil, if_pos rfl] at hap
  have hhd := head_del bs ts (makeL bs ts) [] hsb hst (fun _ => true)
  rw [List.append_nil, if_neg (by simp)] at hhd
  exact ⟨k, ⟨q, rfl, hq, hqn⟩, hap, hhd, octs_del bs ts _ hsb hst hot hcs htx, hsh⟩

structure RmD (w W : World) (B gb cb gd cd : Nat) (pr : Array Value) (xs ys : List Int) : Prop where
  kept : Kept [gd] w W
  box : W.heap[w.heap.size]? = some (.cells pr 68 (0, 0))
  lb : Lent W B gb cb xs
  ld : Lent W B gd cd ys
  b1 : gb < w.heap.size
  b2 : gd < w.heap.size
  ne : gb ≠ gd
theorem RmD.on {w W W' : World} {B gb cb gd cd : Nat} {pr : Array Value} {xs ys : List Int} (P : RmD w W B gb cb gd cd pr xs ys) (k : Kept [] W W') : RmD w W' B gb cb gd cd pr xs ys :=
  ⟨P.kept.trans k (by simp), k.heap P.box (by simp), Lent.kept P.lb k (by simp), Lent.kept P.ld k (by simp), P.b1, P.b2, P.ne⟩
theorem RmD.intoD {w W W' : World} {B gb cb gd cd : Nat} {pr : Array Value} {xs ys ys' : List Int} (P : RmD w W B gb cb gd cd pr xs ys) (k : Kept [gd] W W') (l : Lent W' B gd cd ys') : RmD w W' B gb cb gd cd pr xs ys' := by
  have h1 := P.b2
  have h2 := P.ne
  exact ⟨P.kept.trans k (by simp), k.heap P.box (by simp; omega), Lent.kept P.lb k (by simp; omega), l, P.b1, P.b2, P.ne⟩

set_option maxRecDepth 100000 in
set_option maxHeartbeats 4000000 in
theorem remade_any {w : World} {B gb cb gd cd cp cq : Nat} {ap aq : Option Addr} {bs ts : List Int} (lb : Lent w B gb cb bs) (ld : Lent w B gd cd ts) (hgd : gb ≠ gd)
    (hp : BytesAt w (.slice ap bs.length cp) bs) (hq : BytesAt w (.slice aq ts.length cq) ts) (hpa : bs ≠ [] → ∀ k, blkOf (.slice ap bs.length cp) = some k → k < B) (hqa : ts ≠ [] → ∀ k, blkOf (.slice aq ts.length cq) = some k → k < B)
    (hob : Octs bs) (hot : Octs ts) (hsb : bs.length ≤ 65536) (hst : ts.length ≤ 65536) :
    Calls Try.prog 28 #[.slice (some ⟨gb, 0, none⟩) bs.length cb, .slice (some ⟨gd, 0, none⟩) ts.length cd, .agg #[.slice ap bs.length cp, .slice aq ts.length cq]] w fun e w' => e = .returned (.bool true) ∧ Kept [gd] w w' := by
  obtain ⟨_, _, rb1, rb2⟩ := lb.room
  obtain ⟨_, _, rd1, rd2⟩ := ld.room
  have HP : Hid (∀ W, Kept [gd] w W → BytesAt W (.slice ap bs.length cp) bs) := fun W k => hp.kept' k (fun hne x hx => by have := hpa hne x hx; simp; omega)
  have HQ : Hid (∀ W, Kept [gd] w W → BytesAt W (.slice aq ts.length cq) ts) := fun W k => hq.kept' k (fun hne x hx => by have := hqa hne x hx; simp; omega)
  have D0 : RmD w (w.alloc (.cells #[.slice ap bs.length cp, .slice aq ts.length cq] 68)) B gb cb gd cd #[.slice ap bs.length cp, .slice aq ts.length cq] bs ts :=
    ⟨(Kept.refl _ _).alloc _, heap_alloc_new w _, Lent.kept lb ((Kept.refl [] _).alloc _) (by simp), Lent.kept ld ((Kept.refl [] _).alloc _) (by simp), rb2, rd2, hgd⟩
  have hoth := Other_any _ ts _ (HQ.out _ D0.kept) (by omega) hot
  have HD0 : Hid _ := D0
  clear hp hq hpa hqa D0 lb ld
  go_enter Try.func28, Try.ntmps28
  go_wp2_with fail
  go_at_call 60
  refine hoth.mono ?_
  rintro e w1 ⟨u, zs, rfl, hu, hlz, hoz, k1⟩
  obtain ⟨au, cu, rfl⟩ := own_shape hu
  have D1 := HD0.out.on k1
  have HUB : Hid (∀ x, blkOf (.slice au zs.length cu) = some x → w.heap.size + 1 ≤ x) := fun x hx => by
    have h := (World.ownsRow.lt hu x (by rw [own_blk]; exact hx)).1
    rw [World.size_alloc] at h
    exact h
  have HU1 : Hid (BytesAt w1 (.slice au zs.length cu) zs) := hu.bytes
  have hin := Into_any D1.ld HU1.out (fun _ x hx => by have := HUB.out x hx; simp; omega) hlz.symm (by omega)
  have HLZ : Hid (zs.length = ts.length) := hlz
  have HD1 : Hid _ := D1
  clear hoth hu k1 D1 HD0 hlz
  go_wp2_with fail
  go_at_call 61
  refine hin.mono ?_
  rintro e w2 ⟨rfl, l2, k2⟩
  have D2 := HD1.out.intoD k2 l2
  have hmk := Make_ok D2.lb.bytes hob hsb D2.ld.bytes hoz (by have := HLZ.out; omega)
  rw [HLZ.out] at hmk
  have HU2 : Hid (BytesAt w2 (.slice au zs.length cu) zs) := HU1.out.kept k2 (fun x hx => by have := HUB.out x hx; simp; omega)
  have HD2 : Hid _ := D2
  clear hin D2 k2 l2 HD1 HU1
  go_wp2_with fail
  go_at_call 22
  refine hmk.mono ?_
  rintro e w3 ⟨k3, ⟨q, rfl, hq, hqn⟩, hap, _, hod, hsh⟩
  have D3 := HD2.out.on k3
  have HU3 : Hid (BytesAt w3 (.slice au zs.length cu) zs) := HU2.out.kept k3 (fun _ _ => by simp)
  have HSh : Hid ((dlL bs zs).length + lcpN bs zs + lcsN (bs.drop (lcpN bs zs)) (zs.drop (lcpN bs zs)) ≤ zs.length + 32) := hsh _ _ (lcpN_is _ _) (lcsN_is _ _)
  generalize dlL bs zs = ds at *
  have hdl : ds.length ≤ 70000 := by have := HSh.out; have := HLZ.out; omega
  have hapc := Apply_any D3.lb.bytes (raw_row hq) hod (by omega) (0, zs) hap.symm
  have HD3 : Hid _ := D3
  clear hmk k3 D3 HD2 HU2 hq hqn hap hsh hod
  go_wp2_with fail
  go_at_call 25
  refine hapc.mono ?_
  rintro e w4 ⟨v1, rfl, t1, t2, t3⟩
  have D4 := HD3.out.on t2
  have HU4 : Hid (BytesAt w4 (.slice au zs.length cu) zs) := HU3.out.kept t2 (fun _ _ => by simp)
  have heq := Eq_same t1 HU4.out (by have := HLZ.out; dsimp only; omega)
  have hnum := num7_any 0 w4
  have HD4 : Hid _ := D4
  obtain ⟨a2, c2, rfl, _⟩ := t1
  clear hapc t2 t3 D4 HD3 HU3
  go_wp2_with fail
  go_at_call 23
  refine hnum.mono ?_
  rintro e w5 ⟨rfl, hw5⟩
  subst w5
  go_wp2_with fail
  go_at_call 23
  refine hnum.mono ?_
  rintro e w5 ⟨rfl, hw5⟩
  subst w5
  clear hnum
  go_wp2_with fail
  go_at_call 19
  refine heq.mono ?_
  rintro e w5 ⟨rfl, n5, rfl⟩
  have D5 := HD4.out.on ((Kept.refl [] w4).drewN n5)
  have HU5 : Hid (BytesAt (w4.drewN n5) (.slice au zs.length cu) zs) := HU4.out.drewN n5
  have HD5 : Hid _ := D5
  clear heq D5 HD4 HU4
  generalize w4.drewN n5 = w5 at *
  obtain ⟨q1, q2, q3⟩ := own_facts HD5.out.box
  obtain ⟨p, hpE⟩ : ∃ p, p = lcpN bs zs := ⟨_, rfl⟩
  obtain ⟨s, hsE⟩ : ∃ s, s = lcsN (bs.drop (lcpN bs zs)) (zs.drop (lcpN bs zs)) := ⟨_, rfl⟩
  have hbd := RBound_any (HP.out _ HD5.out.kept) HU5.out (by omega) (by have := HLZ.out; omega) p s (hpE ▸ lcpN_is _ _) (by have h := lcsN_is (bs.drop (lcpN bs zs)) (zs.drop (lcpN bs zs)); rw [← hsE, ← hpE] at h; exact h)
  have hle : decide ((ds.length : Int) ≤ (zs.length : Int) - p - s + 32) = true := by have h := HSh.out; rw [← hsE, ← hpE] at h; simp; omega
  have HFk : Hid (Kept [gd] w w5) := HD5.out.kept
  clear hpE hsE HSh HD5 HU5
  obtain ⟨Z, hZ⟩ : ∃ Z : Int, Z = (zs.length : Int) - p - s + 32 := ⟨_, rfl⟩
  rw [← hZ] at hbd hle
  clear hZ
  go_wp2_with fail
  go_at_call 24
  refine hbd.mono ?_
  rintro e w6 ⟨rfl, n6, rfl⟩
  clear hbd
  go_wp2
  go_ret
  exact ⟨rfl, HFk.out.drewN n6⟩
end Go.Proofs.Ytldhbcppnoldiaa
