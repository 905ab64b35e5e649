/-
  WALKS: an Ask to encode: (satchellaw3.Ask).holds.
  WALKS: satchellaw3.handed; an Ask to parse: (satchellaw3.Ask).holds.
-/
import Derived.Test.YtmjakhmkddgffaaGreatDoorPar2
import Derived.Test.YtmjakhmkddgffaaGreatDoorTwin
import Derived.Test.YtmjakhmkddgffaaGreatDoorEqA
import Derived.Deep.QuietTactic
import Derived.Test.YtmjakhmkddgffaaGreatDoorQuietE
import Derived.Test.YtmjakhmkddgffaaGreatDoorSame1
namespace Go.Proofs.YtmjakhmkddgffaaGreatDoor
open Go.RowKit

theorem ask_at {a : AskL} (hc : a.o.com.tree.length = 32) (ht : a.o.tag.target.length = 32) {w : World} {b : Nat} {ty : TypeId} {fr : Nat × Nat} (h : w.heap[b]? = some (.cells a.row.toArray ty fr)) :
    w.cell? ⟨b, 0, none⟩ = some (.int .i64 a.doo) ∧ w.rangeAt b 1 a.o.row ∧ w.cell? ⟨b, 77, none⟩ = some a.bv ∧ w.cell? ⟨b, 78, none⟩ = some (.string (strOfNums a.name)) := by
  have hr := row_range h
  have key : ∀ j v, a.row[j]? = some v → w.cell? ⟨b, j, none⟩ = some v := fun j v hj => by
    have := hr j v hj
    rwa [Nat.zero_add] at this
  have hl := objL_len hc ht
  have tail : ∀ j v, ([a.bv] ++ [Value.string (strOfNums a.name)])[j]? = some v → a.row[77 + j]? = some v := fun j v hj => by
    unfold AskL.row
    rw [List.getElem?_append_right (by show 1 ≤ 77 + j; omega), show (77 + j - [Value.int .i64 a.doo].length) = 76 + j by show 77 + j - 1 = 76 + j; omega, List.getElem?_append_right (by omega), hl, Nat.add_sub_cancel_left]
    exact hj
  refine ⟨key 0 _ rfl, fun j v hj => key _ v ?_, key 77 _ (tail 0 _ rfl), key 78 _ (tail 1 _ rfl)⟩
  unfold AskL.row
  rw [List.getElem?_append_right (by show 1 ≤ 1 + j; omega), show (1 + j - [Value.int .i64 a.doo].length) = j by show 1 + j - 1 = j; omega, List.getElem?_append_left (List.getElem?_eq_some_iff.1 hj).1]
  exact hj

theorem twin_err (o : ObjL) (bv ev pv : Value) : errO { o with bv := bv, ev := ev, pv := pv } = errO o ∧ encO { o with bv := bv, ev := ev, pv := pv } = encO o := ⟨rfl, rfl⟩

set_option maxRecDepth 100000 in
set_option maxHeartbeats 4000000 in
theorem holdsEnc_any (a : AskL) (h1 : a.doo = 1) (w : World) (ha : AskL.Good w a) (hT : Tabs w) :
    Calls Tryz.prog 8 #[.agg a.row.toArray] w fun e w' => e = .returned (.bool true) ∧ Kept [] w w' := by
  have hk0 : Kept [] w (w.alloc (.cells a.row.toArray 39)) := (Kept.refl _ _).alloc _
  have HC : Hid (∀ W, Kept [] (w.alloc (.cells a.row.toArray 39)) W → W.cell? ⟨w.heap.size, 0, none⟩ = some (.int .i64 1) ∧ W.rangeAt w.heap.size 1 a.o.row) := fun W k => by
    obtain ⟨q0, q1, _, _⟩ := ask_at (a := a) ha.o.com.tree.1 ha.o.tag.target.1 (k.heap (heap_alloc_new w (.cells a.row.toArray 39)) (by simp))
    rw [h1] at q0
    exact ⟨q0, q1⟩
  have HK0 : Hid (Kept [] w (w.alloc (.cells a.row.toArray 39))) := hk0
  have hsz : (Tryz.prog.info? 37).map (·.size) = some a.o.row.length := by rw [objL_len ha.o.com.tree.1 ha.o.tag.target.1]; kernel_rfl
  have hun := Tryz.underlying37
  have hs79 : a.row.toArray.size = 79 := by rw [List.size_toArray, ha.len]
  have htw := twin_any a.o _ (ha.o.kept hk0) ha.fits
  have HE : Hid (∀ bv ev pv W, ObjL.Good W { a.o with bv := bv, ev := ev, pv := pv } → Kept [] w W → Calls Tryz.prog 10 #[.agg ({ a.o with bv := bv, ev := ev, pv := pv } : ObjL).row.toArray] W (EncA W (errO a.o) (encO a.o))) := fun bv ev pv W hW k => Encode_any { a.o with bv := bv, ev := ev, pv := pv } W (hT.kept k) hW
  have HR : Hid (∀ W, Kept [] w W → Calls Tryz.prog 17 #[.agg a.o.row.toArray] W fun e w' => ∃ v, e = .returned (.tuple #[v, .int .i64 (errO a.o)]) ∧ BytesAt w' v (if errO a.o = 0 then encO a.o else []) ∧ Kept [] W w') := fun W k => R3Enc_any a.o W (ha.o.kept k)
  obtain ⟨g0, g1⟩ := HC.out _ (Kept.refl _ _)
  have hxl := errO_len a.o
  clear ha hT hk0 h1
  generalize a.row.toArray = av at *
  generalize errO a.o = er at *
  obtain ⟨X, hX⟩ : ∃ X, X = if er = 0 then encO a.o else [] := ⟨_, rfl⟩
  rw [← hX] at HR hxl
  have HX : Hid (X = if er = 0 then encO a.o else []) := hX
  clear hX
  generalize a.o.row = orr at *
  go_enter Tryz.func8, Tryz.ntmps8
  go_wp2_with (refine wpList_load_mid (by rfl) 37 (.tmp 20) (by rfl) w.heap.size 1 (by rfl) orr _ g1 hun rfl hsz ?_)
  go_at_call 16
  refine htw.mono ?_
  rintro e w1 ⟨bv, ev, pv, rfl, hg1, k1⟩
  have HK1 : Hid (Kept [] (w.alloc (.cells av 39)) w1) := k1
  have henc := HE.out bv ev pv w1 hg1 (HK0.out.then k1)
  clear htw k1 hg1 HE
  generalize ({ a.o with bv := bv, ev := ev, pv := pv } : ObjL).row.toArray = pr at *
  go_wp2_with fail
  go_at_call 10
  refine henc.mono ?_
  rintro e w2 ⟨v2, rfl, b2, _, k2⟩
  have HK2 : Hid (Kept [] (w.alloc (.cells av 39)) w2) := HK1.out.then k2
  obtain ⟨_, g2⟩ := HC.out w2 HK2.out
  rw [← HX.out] at b2
  have hr := HR.out w2 (HK0.out.then HK2.out)
  have HB2 : Hid (BytesAt w2 v2 X) := b2
  clear henc k2 b2 HR
  go_wp2_with (refine wpList_load_mid (by rfl) 37 (.tmp 27) (by rfl) w.heap.size 1 (by rfl) orr _ g2 hun rfl hsz ?_)
  go_at_call 17
  refine hr.mono ?_
  rintro e w3 ⟨v3, rfl, b3, k3⟩
  have HK3 : Hid (Kept [] w w3) := (HK0.out.then HK2.out).then k3
  have b2' : BytesAt w3 v2 X := HB2.out.keep k3 (fun _ _ _ => by simp)
  have heq := Eq_same b2' b3 (by omega)
  clear hr k3 b3 b2' HB2 HX
  go_wp2_with fail
  go_at_call 18
  refine heq.mono ?_
  rintro e w4 ⟨rfl, n4, rfl⟩
  go_wp2
  go_ret
  exact ⟨rfl, HK3.out.drewN _⟩
end Go.Proofs.YtmjakhmkddgffaaGreatDoor

namespace Go.Proofs.YtmjakhmkddgffaaGreatDoor
open Go.RowKit

set_option maxRecDepth 100000 in
set_option maxHeartbeats 2000000 in
theorem handed_any (v : Value) (xs : List Int) (w : World) (hv : BytesAt w v xs) (hm : xs.length ≤ 140737488355328) :
    Calls Tryz.prog 19 #[v] w fun e w' => ∃ ao c, e = .returned (.slice ao xs.length c) ∧ BytesAt w' (.slice ao xs.length c) xs ∧ Kept [] w w' := by
  have hcopy := Copy_any v xs w hv hm
  have HV : Hid (BytesAt w v xs) := hv
  obtain ⟨ao, cap, rfl, h1, h0, _⟩ := hv
  cases ao with
  | none =>
    have e1 : cap = 0 := h0 rfl
    have e2 : xs = [] := List.eq_nil_of_length_eq_zero (by omega)
    subst e1 e2
    clear hcopy
    have hb : ∀ W, (binOp .eql 26 (.slice none 0 0) (.slice none 0 0)).run Tryz.prog W = .ok (.bool true) W := fun W => by kernel_rfl
    go_enter Tryz.func19, Tryz.ntmps19
    go_wp2
    go_ret
    exact ⟨none, 0, rfl, BytesAt.nil w, Kept.refl _ _⟩
  | some a =>
    have hb : ∀ W n c, (binOp .eql 26 (.slice (some a) n c) (.slice none 0 0)).run Tryz.prog W = .ok (.bool false) W := fun W n c => by kernel_rfl
    go_enter Tryz.func19, Tryz.ntmps19
    go_wp2_with fail
    go_at_call 35
    refine hcopy.mono ?_
    rintro e w1 ⟨rfl, row1, k1⟩
    have HB : Hid (BytesAt w1 (.slice (some ⟨w.heap.size, 0, none⟩) xs.length xs.length) xs) := row_bytes' row1
    have HK : Hid (Kept [] w w1) := k1
    clear hcopy row1 k1
    go_wp2
    go_ret
    exact ⟨_, _, rfl, HB.out, HK.out⟩

theorem guessO_form (xs : List Int) (bv ev pv : Value) : guessO xs bv ev pv = { guessO xs nilV nilV nilV with bv := (guessO xs bv ev pv).bv, ev := (guessO xs bv ev pv).ev, pv := (guessO xs bv ev pv).pv } := by
  unfold guessO
  split
  · rfl
  · split
    · rfl
    · split
      · rfl
      · rfl
/-- Two that were read of the same bytes say the same. -/
theorem same_par (xs : List Int) {o p : ObjL} (h1 : parErr xs = 0 → ∃ bv ev pv, o = guessO xs bv ev pv) (h2 : parErr xs ≠ 0 → o = zeroO) (h3 : parErr xs = 0 → ∃ bv ev pv, p = guessO xs bv ev pv) (h4 : parErr xs ≠ 0 → p = zeroO) (w : World) (hg1 : ObjL.Good w o) (hg2 : ObjL.Good w p) :
    Calls Tryz.prog 13 #[.agg o.row.toArray, .agg p.row.toArray] w fun e w' => e = .returned (.bool true) ∧ Kept [] w w' := by
  by_cases he : parErr xs = 0
  · obtain ⟨b1, e1, p1, rfl⟩ := h1 he
    obtain ⟨b2, e2, p2, rfl⟩ := h3 he
    have hg1' := hg1
    have hg2' := hg2
    rw [guessO_form xs b1 e1 p1] at hg1'
    rw [guessO_form xs b2 e2 p2] at hg2'
    have h := Same_eq (guessO xs nilV nilV nilV) _ _ _ _ _ _ w hg1' hg2'
    rw [← guessO_form xs b1 e1 p1, ← guessO_form xs b2 e2 p2] at h
    exact h
  · obtain rfl := h2 he
    obtain rfl := h4 he
    exact Same_eq zeroO _ _ _ _ _ _ w hg1 hg2

set_option maxRecDepth 100000 in
set_option maxHeartbeats 4000000 in
theorem holdsParse_any (a : AskL) (h1 : a.doo = 2) (w : World) (ha : AskL.Good w a) (hT : Tabs w) :
    Calls Tryz.prog 8 #[.agg a.row.toArray] w fun e w' => e = .returned (.bool true) ∧ Kept [] w w' := by
  have hk0 : Kept [] w (w.alloc (.cells a.row.toArray 39)) := (Kept.refl _ _).alloc _
  obtain ⟨ab, cb, hbv⟩ : ∃ ao cap, a.bv = .slice ao a.bs.length cap := by obtain ⟨x, y, h, _⟩ := ha.bv; exact ⟨x, y, h⟩
  have HC : Hid (∀ W, Kept [] (w.alloc (.cells a.row.toArray 39)) W → W.cell? ⟨w.heap.size, 0, none⟩ = some (.int .i64 2) ∧ W.cell? ⟨w.heap.size, 77, none⟩ = some (.slice ab a.bs.length cb)) := fun W k => by
    obtain ⟨q0, _, q2, _⟩ := ask_at (a := a) ha.o.com.tree.1 ha.o.tag.target.1 (k.heap (heap_alloc_new w (.cells a.row.toArray 39)) (by simp))
    rw [h1] at q0
    rw [hbv] at q2
    exact ⟨q0, q2⟩
  have HK0 : Hid (Kept [] w (w.alloc (.cells a.row.toArray 39))) := hk0
  have hun := Tryz.underlying37
  have hs79 : a.row.toArray.size = 79 := by rw [List.size_toArray, ha.len]
  have hbt : BytesAt w (.slice ab a.bs.length cb) a.bs := by rw [← hbv]; exact ha.bv
  have hhd := handed_any _ a.bs _ (hbt.keep hk0 (fun _ _ _ => by simp)) (Nat.le_trans ha.bs.2 (by decide))
  have HP : Hid (∀ W v, Kept [] w W → BytesAt W v a.bs → Calls Tryz.prog 11 #[v] W (ParA W a.bs)) := fun W v k hv => Parse_any v a.bs W hv ha.bs.1 (hT.kept k)
  have HR : Hid (∀ W, Kept [] w W → Calls Tryz.prog 20 #[.slice ab a.bs.length cb] W (ParA W a.bs)) := fun W k => R3Parse_any _ a.bs W (hbt.keep k (fun _ _ _ => by simp)) ha.bs.1 ha.bs.2
  obtain ⟨g0, g77⟩ := HC.out _ (Kept.refl _ _)
  clear ha hT hk0 h1 hbv hbt
  generalize a.row.toArray = av at *
  generalize a.bs = xs at *
  go_enter Tryz.func8, Tryz.ntmps8
  go_wp2_with fail
  go_at_call 19
  refine hhd.mono ?_
  rintro e w1 ⟨a1, c1, rfl, hb1, k1⟩
  have HK1 : Hid (Kept [] (w.alloc (.cells av 39)) w1) := k1
  have hpar := HP.out w1 _ (HK0.out.then k1) hb1
  clear hhd k1 hb1 HP
  go_wp2_with fail
  go_at_call 11
  refine hpar.mono ?_
  rintro e w2 ⟨o, rfl, hg2, k2, z1, z2⟩
  have hoz : o.row.toArray.size = 76 := by rw [List.size_toArray]; exact objL_len hg2.com.tree.1 hg2.tag.target.1
  have hos : (Tryz.prog.info? 37).map (·.size) = some o.row.toArray.size := by rw [hoz]; kernel_rfl
  have hozz : Tryz.zeroCells37.size = o.row.toArray.size := by rw [hoz]; kernel_rfl
  have ho1 : o.row.toArray.all (·.oneCell') = true := objL_one hg2
  have HK2 : Hid (Kept [] (w.alloc (.cells av 39)) (w2.alloc (.cells o.row.toArray 37))) := (HK1.out.then k2).alloc _
  have HO2 : Hid ((w2.alloc (.cells o.row.toArray 37)).heap[w2.heap.size]? = some (.cells o.row.toArray 37 (0, 0))) := heap_alloc_new w2 _
  have HG2 : Hid (∀ W, Kept [] w2 W → ObjL.Good W o) := fun W k => hg2.kept k
  have HZ1 : Hid (parErr xs = 0 → ∃ bv ev pv, o = guessO xs bv ev pv) := z1
  have HZ2 : Hid (parErr xs ≠ 0 → o = zeroO) := z2
  obtain ⟨_, g77b⟩ := HC.out _ HK2.out
  have hrp := HR.out _ (HK0.out.then HK2.out)
  clear hpar k2 hg2 z1 z2 HR hoz
  generalize hor : o.row.toArray = orr at *
  have HOR : Hid (o.row.toArray = orr) := hor
  clear hor
  go_wp2_with (first
    | (refine wpList_store_new (by rfl) 37 (.tmp 7) (.tmp 47) (by rfl) w2 _ orr (by rfl) (by rfl) hos hozz ho1 ?_))
  go_at_call 20
  refine hrp.mono ?_
  rintro e w3 ⟨p, rfl, hg3, k3, z3, z4⟩
  have hpz : p.row.toArray.size = 76 := by rw [List.size_toArray]; exact objL_len hg3.com.tree.1 hg3.tag.target.1
  have hps : (Tryz.prog.info? 37).map (·.size) = some p.row.toArray.size := by rw [hpz]; kernel_rfl
  have hpzz : Tryz.zeroCells37.size = p.row.toArray.size := by rw [hpz]; kernel_rfl
  have hp1 : p.row.toArray.all (·.oneCell') = true := objL_one hg3
  have k34 : Kept [] w3 (w3.alloc (.cells p.row.toArray 37)) := (Kept.refl _ _).alloc _
  have k24 : Kept [] w2 (w3.alloc (.cells p.row.toArray 37)) := (((Kept.refl [] w2).alloc _).then k3).then k34
  have HKF : Hid (Kept [] w (w3.alloc (.cells p.row.toArray 37))) := ((HK0.out.then HK2.out).then k3).then k34
  have HO4 : Hid ((w3.alloc (.cells p.row.toArray 37)).heap[w2.heap.size]? = some (.cells orr 37 (0, 0))) := k34.heap (k3.heap HO2.out (by simp)) (by simp)
  have HP4 : Hid ((w3.alloc (.cells p.row.toArray 37)).heap[w3.heap.size]? = some (.cells p.row.toArray 37 (0, 0))) := heap_alloc_new w3 _
  have hsame := same_par xs HZ1.out HZ2.out z3 z4 _ (HG2.out _ k24) (hg3.kept k34)
  rw [HOR.out] at hsame
  clear hrp k3 hg3 z3 z4 hpz k34 k24 HG2 HZ1 HZ2
  generalize p.row.toArray = prr at *
  generalize parErr xs = er at *
  go_wp2_with (first
    | (refine wpList_store_new (by rfl) 37 (.tmp 9) (.tmp 53) (by rfl) w3 _ prr (by rfl) (by rfl) hps hpzz hp1 ?_)
    | (refine wpList_wantG (by rfl) (fun K hK => wp_load_row 37 (.tmp 7) (by rfl) w2.heap.size (by rfl) 37 orr (0, 0) _ HO4.out hun rfl hos (hK _ _ ?_)))
    | (refine wpList_wantG (by rfl) (fun K hK => wp_load_row 37 (.tmp 9) (by rfl) w3.heap.size (by rfl) 37 prr (0, 0) _ HP4.out hun rfl hps (hK _ _ ?_))))
  go_at_call 13
  refine hsame.mono ?_
  rintro e w5 ⟨rfl, k5⟩
  have HK5 : Hid (Kept [] w w5) := HKF.out.then k5
  clear hsame k5
  go_wp2
  go_ret
  exact ⟨rfl, HK5.out⟩
end Go.Proofs.YtmjakhmkddgffaaGreatDoor
