/-
  ASKS OPENED: what a reading of them says of memory.
  WALKS: an Ask to encode: (satchellaw3.Ask).holds.
  WALKS: an Ask to parse: (satchellaw3.Ask).holds.
  WALK: an Ask for the children, against the document's.
  WALKS: object.Id and satchelref3.Id, of any bytes.
  WALKS: an Ask for the kind, an Ask for the id, against the document's.
  WALKS: an Ask for the id, against the document's.
-/
import Derived.Test.YtfcoeinhfdbcgaaGreatDoorGs2
import Derived.Test.YtfcoeinhfdbcgaaGreatDoorPar2
import Derived.Test.YtfcoeinhfdbcgaaGreatDoorTwin
import Derived.Test.YtfcoeinhfdbcgaaGreatDoorHd
import Derived.Deep.QuietTactic
import Derived.Test.YtfcoeinhfdbcgaaGreatDoorGp5
import Derived.Test.YtfcoeinhfdbcgaaGreatDoorSame1
import Derived.Test.YtfcoeinhfdbcgaaGreatDoorLk4
import Derived.Test.YtfcoeinhfdbcgaaGreatDoorRs6
import Derived.Test.YtfcoeinhfdbcgaaGreatDoorRCopy
namespace Go.Proofs.YtfcoeinhfdbcgaaGreatDoor
open Go.ChangeShapes Go.WideShapes Go.ChangeAt Go.RowKit Go.Deep

/-- An Ask, whole. -/
structure AskL where
  doo : Int
  o : ObjL
  bv : Value
  bs : List Int
  name : List Int
def AskL.row (a : AskL) : List Value := [.int .i64 a.doo] ++ (a.o.row ++ ([a.bv] ++ [.string (strOfNums a.name)]))
structure AskL.Good (w : World) (a : AskL) : Prop where
  lo : -9223372036854775808 ≤ a.doo
  hi : a.doo ≤ 9223372036854775807
  o : ObjL.Good w a.o
  fits : a.o.Fits
  bv : BytesAt w a.bv a.bs
  bs : GoodText a.bs
  name : GoodText a.name
/-- The slice of the asks lies so. -/
def AsksL (w : World) (v : Value) (aks : List AskL) : Prop :=
  ∃ ao cap, v = .slice ao aks.length cap ∧ aks.length ≤ 140737488351232 ∧
    (aks ≠ [] → ∃ b off, ao = some ⟨b, off, none⟩ ∧ ∀ (i : Nat) (a : AskL), aks[i]? = some a → w.rangeAt b (off + i * 79) a.row)
theorem AsksL.kept {w w' : World} {v : Value} {aks : List AskL} (h : AsksL w v aks) (k : Kept [] w w') : AsksL w' v aks := by
  obtain ⟨ao, cap, rfl, hl, hc⟩ := h
  refine ⟨ao, cap, rfl, hl, fun hne => ?_⟩
  obtain ⟨b, off, rfl, hh⟩ := hc hne
  exact ⟨b, off, rfl, fun i a ha => range_kept (hh i a ha) k (by simp)⟩
theorem AskL.Good.kept {w w' : World} {a : AskL} (h : AskL.Good w a) (k : Kept [] w w') : AskL.Good w' a :=
  ⟨h.lo, h.hi, h.o.kept k, h.fits, h.bv.keep k (fun _ _ _ => by simp), h.bs, h.name⟩
theorem ask_len {a : AskL} (hc : a.o.com.tree.length = 32) (ht : a.o.tag.target.length = 32) : a.row.length = 79 := by
  unfold AskL.row
  rw [List.length_append, List.length_append, objL_len hc ht]
  rfl
theorem AskL.Good.len {w : World} {a : AskL} (h : AskL.Good w a) : a.row.length = 79 := ask_len h.o.com.tree.1 h.o.tag.target.1

theorem Tryz.cells_ask : Tryz.prog.cellsOf 39 = 79 := by kernel_rfl
theorem Tryz.bytes_ask : Tryz.prog.bytesOf 39 = 296 := by kernel_rfl
theorem Tryz.cells_asks : Tryz.prog.cellsOf 24 = 1 := by kernel_rfl
theorem Tryz.cells_askl : Tryz.prog.cellsOf 22 = 1 := by kernel_rfl
instance : Inhabited AskL := ⟨⟨0, default, .slice none 0 0, [], []⟩⟩


section
variable {H : Type} {enc : TypeId × Value → H} {w : World} {base : Nat} {spare : Nat → Bool} {held : Bool} {fuel : Nat} {cs : List Value} {x : DataW H × List MemPlace}

theorem open_askU (h : DataW.trod enc Tryz.prog w base spare held fuel 39 cs = some x) : ∃ a : AskL, cs = a.row ∧ ((DataW.weights Tryz.prog 39 x.1).all (· ≤ 140737488351232) = true → AskL.Good w a) ∧ a.bs.length ≤ Rows.uptoBulk x.1 := by
  obtain ⟨zs, n, rfl, rfl, hlen, hxs, hfl⟩ := DataW.trod_struct Tryz.underlying39 h
  rw [Tryz.cells_ask] at hlen
  have f0 := hfl 0 _ rfl
  have f1 := hfl 1 _ rfl
  have f2 := hfl 2 _ rfl
  have f3 := hfl 3 _ rfl
  match zs, hxs with
  | [y0, y1, y2, y3], _ =>
    simp [Tryz.cells_int, Tryz.cells_bytes, Tryz.cells_obj, Tryz.cells_str] at f0 f1 f2 f3
    obtain ⟨kd, e0, l1, l2⟩ := open_int f0
    obtain ⟨o, e1, k1⟩ := open_obj f1
    obtain ⟨ao, cap, bs, e2, hb2, o2, k2, kb⟩ := open_bytes f2
    obtain ⟨s3, e3, o3, k3⟩ := open_str f3
    have c : cs = cs.take 1 ++ ((cs.drop 1).take 76 ++ ((cs.drop 77).take 1 ++ (cs.drop 78).take 1)) := cut4 cs 1 76 1 1 hlen
    rw [List.drop_one] at c
    rw [e0, e1, e2, e3] at c
    refine ⟨⟨kd, o, .slice ao bs.length cap, bs, s3⟩, c, fun hB => ?_, ?_⟩
    · simp only [DataW.weights, Tryz.underlying39, DataW.weightsEach, List.map_cons, List.map_nil, List.append_nil, List.all_append, Bool.and_eq_true] at hB
      obtain ⟨_, b1, b2, b3⟩ := hB
      exact ⟨l1, l2, (k1 b1).1, (k1 b1).2, hb2, ⟨o2, k2 _ b2⟩, ⟨o3, k3 _ b3⟩⟩
    · simp only [Rows.uptoBulk, Rows.uptoBulkAll, List.map_cons, List.map_nil]
      omega

set_option maxRecDepth 100000 in
/-- The asks, opened. -/
theorem open_asksU {r : Reach} {b0 : Nat} {v : Value} {d : DataW H} {p : List MemPlace} (hv : Value.okWide Tryz.prog w r b0 24 v) (h : DataW.Trod enc Tryz.prog w base spare held 24 v d p)
    (hB : (DataW.weights Tryz.prog 24 d).all (· ≤ 140737488351232) = true) :
    ∃ u aks, v = .agg #[u] ∧ AsksL w u aks ∧ (∀ a, a ∈ aks → AskL.Good w a) ∧ ∀ a, a ∈ aks → a.bs.length ≤ Rows.uptoBulk d := by
  obtain ⟨vs, rfl, hsz⟩ := okWide_struct Tryz.underlying24 hv
  rw [Tryz.cells_asks] at hsz
  obtain ⟨fuel, hf0⟩ := h
  obtain ⟨zs, n, rfl, hx, hlen, hxs, hfl⟩ := DataW.trod_struct Tryz.underlying24 hf0
  simp only [Prod.mk.injEq] at hx
  obtain ⟨rfl, _⟩ := hx
  obtain ⟨l⟩ := vs
  match l, hsz with
  | [u], _ =>
    have hf := hfl 0 _ rfl
    match zs, hxs with
    | [y0], _ =>
      simp [Tryz.cells_askl, Value.cells] at hf
      simp only [DataW.weights, Tryz.underlying24, DataW.weightsEach, List.map_cons, List.map_nil, List.append_nil] at hB
      obtain ⟨ao, cap, ls, e, h1, h0, hc, hBB, hKK⟩ := open_rowlU AskL.row (AskL.Good w) (fun a => a.bs.length) 140737488351232 Tryz.underlying22 Tryz.cells_ask (by decide) hf (fun _ _ _ => open_askU)
      simp only [List.cons.injEq, and_true] at e
      subst e
      rw [Tryz.bytes_ask] at hBB
      exact ⟨_, ls, rfl, ⟨ao, cap, rfl, by have := (hBB hB).1; omega, hc⟩, (hBB hB).2, fun a ha => by
        have h := hKK a ha
        simp only [Rows.uptoBulk, Rows.uptoBulkAll, List.map_cons, List.map_nil]
        omega⟩
set_option maxRecDepth 100000 in
theorem open_asksL {r : Reach} {b0 : Nat} {v : Value} {d : DataW H} {p : List MemPlace} (hv : Value.okWide Tryz.prog w r b0 24 v) (h : DataW.Trod enc Tryz.prog w base spare held 24 v d p)
    (hB : (DataW.weights Tryz.prog 24 d).all (· ≤ 140737488351232) = true) :
    ∃ u aks, v = .agg #[u] ∧ AsksL w u aks ∧ (∀ a, a ∈ aks → AskL.Good w a) := by
  obtain ⟨u, aks, h1, h2, h3, _⟩ := open_asksU hv h hB
  exact ⟨u, aks, h1, h2, h3⟩
end
end Go.Proofs.YtfcoeinhfdbcgaaGreatDoor

namespace Go.Proofs.YtfcoeinhfdbcgaaGreatDoor
open Go.RowKit

theorem ask_at {a : AskL} (hc : a.o.com.tree.length = 32) (ht : a.o.tag.target.length = 32) {w : World} {b : Nat} {ty : TypeId} {fr : Nat × Nat} (h : w.heap[b]? = some (.cells a.row.toArray ty fr)) :
    w.cell? ⟨b, 0, none⟩ = some (.int .i64 a.doo) ∧ w.rangeAt b 1 a.o.row ∧ w.cell? ⟨b, 77, none⟩ = some a.bv ∧ w.cell? ⟨b, 78, none⟩ = some (.string (strOfNums a.name)) := by
  have hr := row_range h
  have key : ∀ j v, a.row[j]? = some v → w.cell? ⟨b, j, none⟩ = some v := fun j v hj => by
    have := hr j v hj
    rwa [Nat.zero_add] at this
  have hl := objL_len hc ht
  have tail : ∀ j v, ([a.bv] ++ [Value.string (strOfNums a.name)])[j]? = some v → a.row[77 + j]? = some v := fun j v hj => by
    unfold AskL.row
    rw [List.getElem?_append_right (by show 1 ≤ 77 + j; omega), show (77 + j - [Value.int .i64 a.doo].length) = 76 + j by show 77 + j - 1 = 76 + j; omega, List.getElem?_append_right (by omega), hl, Nat.add_sub_cancel_left]
    exact hj
  refine ⟨key 0 _ rfl, fun j v hj => key _ v ?_, key 77 _ (tail 0 _ rfl), key 78 _ (tail 1 _ rfl)⟩
  unfold AskL.row
  rw [List.getElem?_append_right (by show 1 ≤ 1 + j; omega), show (1 + j - [Value.int .i64 a.doo].length) = j by show 1 + j - 1 = j; omega, List.getElem?_append_left (List.getElem?_eq_some_iff.1 hj).1]
  exact hj

theorem twin_err (o : ObjL) (bv ev pv : Value) : errO { o with bv := bv, ev := ev, pv := pv } = errO o ∧ encO { o with bv := bv, ev := ev, pv := pv } = encO o := ⟨rfl, rfl⟩

set_option maxRecDepth 100000 in
set_option maxHeartbeats 4000000 in
theorem holdsEnc_any (a : AskL) (h1 : a.doo = 1) (w : World) (ha : AskL.Good w a) (hT : Tabs w) :
    Calls Tryz.prog 6 #[.agg a.row.toArray] w fun e w' => e = .returned (.bool true) ∧ Kept [] w w' := by
  have hk0 : Kept [] w (w.alloc (.cells a.row.toArray 39)) := (Kept.refl _ _).alloc _
  have HC : Hid (∀ W, Kept [] (w.alloc (.cells a.row.toArray 39)) W → W.cell? ⟨w.heap.size, 0, none⟩ = some (.int .i64 1) ∧ W.rangeAt w.heap.size 1 a.o.row) := fun W k => by
    obtain ⟨q0, q1, _, _⟩ := ask_at (a := a) ha.o.com.tree.1 ha.o.tag.target.1 (k.heap (heap_alloc_new w (.cells a.row.toArray 39)) (by simp))
    rw [h1] at q0
    exact ⟨q0, q1⟩
  have HK0 : Hid (Kept [] w (w.alloc (.cells a.row.toArray 39))) := hk0
  have hsz : (Tryz.prog.info? 37).map (·.size) = some a.o.row.length := by rw [objL_len ha.o.com.tree.1 ha.o.tag.target.1]; kernel_rfl
  have hun := Tryz.underlying37
  have hs79 : a.row.toArray.size = 79 := by rw [List.size_toArray, ha.len]
  have htw := twin_any a.o _ (ha.o.kept hk0) ha.fits
  have HE : Hid (∀ bv ev pv W, ObjL.Good W { a.o with bv := bv, ev := ev, pv := pv } → Kept [] w W → Calls Tryz.prog 8 #[.agg ({ a.o with bv := bv, ev := ev, pv := pv } : ObjL).row.toArray] W (EncA W (errO a.o) (encO a.o))) := fun bv ev pv W hW k => Encode_any { a.o with bv := bv, ev := ev, pv := pv } W (hT.kept k) hW
  have HR : Hid (∀ W, Kept [] w W → Calls Tryz.prog 15 #[.agg a.o.row.toArray] W fun e w' => ∃ v, e = .returned (.tuple #[v, .int .i64 (errO a.o)]) ∧ BytesAt w' v (if errO a.o = 0 then encO a.o else []) ∧ Kept [] W w') := fun W k => R3Enc_any a.o W (ha.o.kept k)
  obtain ⟨g0, g1⟩ := HC.out _ (Kept.refl _ _)
  have hxl := errO_len a.o
  clear ha hT hk0 h1
  generalize a.row.toArray = av at *
  generalize errO a.o = er at *
  obtain ⟨X, hX⟩ : ∃ X, X = if er = 0 then encO a.o else [] := ⟨_, rfl⟩
  rw [← hX] at HR hxl
  have HX : Hid (X = if er = 0 then encO a.o else []) := hX
  clear hX
  generalize a.o.row = orr at *
  go_enter Tryz.func6, Tryz.ntmps6
  go_wp2_with (refine wpList_load_mid (by rfl) 37 (.tmp 20) (by rfl) w.heap.size 1 (by rfl) orr _ g1 hun rfl hsz ?_)
  go_at_call 14
  refine htw.mono ?_
  rintro e w1 ⟨bv, ev, pv, rfl, hg1, k1⟩
  have HK1 : Hid (Kept [] (w.alloc (.cells av 39)) w1) := k1
  have henc := HE.out bv ev pv w1 hg1 (HK0.out.then k1)
  clear htw k1 hg1 HE
  generalize ({ a.o with bv := bv, ev := ev, pv := pv } : ObjL).row.toArray = pr at *
  go_wp2_with fail
  go_at_call 8
  refine henc.mono ?_
  rintro e w2 ⟨v2, rfl, b2, _, k2⟩
  have HK2 : Hid (Kept [] (w.alloc (.cells av 39)) w2) := HK1.out.then k2
  obtain ⟨_, g2⟩ := HC.out w2 HK2.out
  rw [← HX.out] at b2
  have hr := HR.out w2 (HK0.out.then HK2.out)
  have HB2 : Hid (BytesAt w2 v2 X) := b2
  clear henc k2 b2 HR
  go_wp2_with (refine wpList_load_mid (by rfl) 37 (.tmp 27) (by rfl) w.heap.size 1 (by rfl) orr _ g2 hun rfl hsz ?_)
  go_at_call 15
  refine hr.mono ?_
  rintro e w3 ⟨v3, rfl, b3, k3⟩
  have HK3 : Hid (Kept [] w w3) := (HK0.out.then HK2.out).then k3
  have b2' : BytesAt w3 v2 X := HB2.out.keep k3 (fun _ _ _ => by simp)
  have heq := Eq_same b2' b3 (by omega)
  clear hr k3 b3 b2' HB2 HX
  go_wp2_with fail
  go_at_call 16
  refine heq.mono ?_
  rintro e w4 ⟨rfl, n4, rfl⟩
  go_wp2
  go_ret
  exact ⟨rfl, HK3.out.drewN _⟩
end Go.Proofs.YtfcoeinhfdbcgaaGreatDoor

namespace Go.Proofs.YtfcoeinhfdbcgaaGreatDoor
open Go.RowKit

theorem guessO_form (xs : List Int) (bv ev pv : Value) : guessO xs bv ev pv = { guessO xs nilV nilV nilV with bv := (guessO xs bv ev pv).bv, ev := (guessO xs bv ev pv).ev, pv := (guessO xs bv ev pv).pv } := by
  unfold guessO
  split
  · rfl
  · split
    · rfl
    · split
      · rfl
      · rfl
/-- Two that were read of the same bytes say the same. -/
theorem same_par (xs : List Int) {o p : ObjL} (h1 : parErr xs = 0 → ∃ bv ev pv, o = guessO xs bv ev pv) (h2 : parErr xs ≠ 0 → o = zeroO) (h3 : parErr xs = 0 → ∃ bv ev pv, p = guessO xs bv ev pv) (h4 : parErr xs ≠ 0 → p = zeroO) (w : World) (hg1 : ObjL.Good w o) (hg2 : ObjL.Good w p) :
    Calls Tryz.prog 11 #[.agg o.row.toArray, .agg p.row.toArray] w fun e w' => e = .returned (.bool true) ∧ Kept [] w w' := by
  by_cases he : parErr xs = 0
  · obtain ⟨b1, e1, p1, rfl⟩ := h1 he
    obtain ⟨b2, e2, p2, rfl⟩ := h3 he
    have hg1' := hg1
    have hg2' := hg2
    rw [guessO_form xs b1 e1 p1] at hg1'
    rw [guessO_form xs b2 e2 p2] at hg2'
    have h := Same_eq (guessO xs nilV nilV nilV) _ _ _ _ _ _ w hg1' hg2'
    rw [← guessO_form xs b1 e1 p1, ← guessO_form xs b2 e2 p2] at h
    exact h
  · obtain rfl := h2 he
    obtain rfl := h4 he
    exact Same_eq zeroO _ _ _ _ _ _ w hg1 hg2

set_option maxRecDepth 100000 in
set_option maxHeartbeats 4000000 in
theorem holdsParse_any (a : AskL) (h1 : a.doo = 2) (w : World) (ha : AskL.Good w a) (hT : Tabs w) :
    Calls Tryz.prog 6 #[.agg a.row.toArray] w fun e w' => e = .returned (.bool true) ∧ Kept [] w w' := by
  have hk0 : Kept [] w (w.alloc (.cells a.row.toArray 39)) := (Kept.refl _ _).alloc _
  obtain ⟨ab, cb, hbv⟩ : ∃ ao cap, a.bv = .slice ao a.bs.length cap := by obtain ⟨x, y, h, _⟩ := ha.bv; exact ⟨x, y, h⟩
  have HC : Hid (∀ W, Kept [] (w.alloc (.cells a.row.toArray 39)) W → W.cell? ⟨w.heap.size, 0, none⟩ = some (.int .i64 2) ∧ W.cell? ⟨w.heap.size, 77, none⟩ = some (.slice ab a.bs.length cb)) := fun W k => by
    obtain ⟨q0, _, q2, _⟩ := ask_at (a := a) ha.o.com.tree.1 ha.o.tag.target.1 (k.heap (heap_alloc_new w (.cells a.row.toArray 39)) (by simp))
    rw [h1] at q0
    rw [hbv] at q2
    exact ⟨q0, q2⟩
  have HK0 : Hid (Kept [] w (w.alloc (.cells a.row.toArray 39))) := hk0
  have hun := Tryz.underlying37
  have hs79 : a.row.toArray.size = 79 := by rw [List.size_toArray, ha.len]
  have hbt : BytesAt w (.slice ab a.bs.length cb) a.bs := by rw [← hbv]; exact ha.bv
  have hhd := handed_any _ a.bs _ (hbt.keep hk0 (fun _ _ _ => by simp)) (Nat.le_trans ha.bs.2 (by decide))
  have HP : Hid (∀ W v, Kept [] w W → BytesAt W v a.bs → Calls Tryz.prog 9 #[v] W (ParA W a.bs)) := fun W v k hv => Parse_any v a.bs W hv ha.bs.1 (hT.kept k)
  have HR : Hid (∀ W, Kept [] w W → Calls Tryz.prog 18 #[.slice ab a.bs.length cb] W (ParA W a.bs)) := fun W k => R3Parse_any _ a.bs W (hbt.keep k (fun _ _ _ => by simp)) ha.bs.1 ha.bs.2
  obtain ⟨g0, g77⟩ := HC.out _ (Kept.refl _ _)
  clear ha hT hk0 h1 hbv hbt
  generalize a.row.toArray = av at *
  generalize a.bs = xs at *
  go_enter Tryz.func6, Tryz.ntmps6
  go_wp2_with fail
  go_at_call 17
  refine hhd.mono ?_
  rintro e w1 ⟨a1, c1, rfl, hb1, k1⟩
  have HK1 : Hid (Kept [] (w.alloc (.cells av 39)) w1) := k1
  have hpar := HP.out w1 _ (HK0.out.then k1) hb1
  clear hhd k1 hb1 HP
  go_wp2_with fail
  go_at_call 9
  refine hpar.mono ?_
  rintro e w2 ⟨o, rfl, hg2, k2, z1, z2⟩
  have hoz : o.row.toArray.size = 76 := by rw [List.size_toArray]; exact objL_len hg2.com.tree.1 hg2.tag.target.1
  have hos : (Tryz.prog.info? 37).map (·.size) = some o.row.toArray.size := by rw [hoz]; kernel_rfl
  have hozz : Tryz.zeroCells37.size = o.row.toArray.size := by rw [hoz]; kernel_rfl
  have ho1 : o.row.toArray.all (·.oneCell') = true := objL_one hg2
  have HK2 : Hid (Kept [] (w.alloc (.cells av 39)) (w2.alloc (.cells o.row.toArray 37))) := (HK1.out.then k2).alloc _
  have HO2 : Hid ((w2.alloc (.cells o.row.toArray 37)).heap[w2.heap.size]? = some (.cells o.row.toArray 37 (0, 0))) := heap_alloc_new w2 _
  have HG2 : Hid (∀ W, Kept [] w2 W → ObjL.Good W o) := fun W k => hg2.kept k
  have HZ1 : Hid (parErr xs = 0 → ∃ bv ev pv, o = guessO xs bv ev pv) := z1
  have HZ2 : Hid (parErr xs ≠ 0 → o = zeroO) := z2
  obtain ⟨_, g77b⟩ := HC.out _ HK2.out
  have hrp := HR.out _ (HK0.out.then HK2.out)
  clear hpar k2 hg2 z1 z2 HR hoz
  generalize hor : o.row.toArray = orr at *
  have HOR : Hid (o.row.toArray = orr) := hor
  clear hor
  go_wp2_with (first
    | (refine wpList_store_new (by rfl) 37 (.tmp 7) (.tmp 47) (by rfl) w2 _ orr (by rfl) (by rfl) hos hozz ho1 ?_))
  go_at_call 18
  refine hrp.mono ?_
  rintro e w3 ⟨p, rfl, hg3, k3, z3, z4⟩
  have hpz : p.row.toArray.size = 76 := by rw [List.size_toArray]; exact objL_len hg3.com.tree.1 hg3.tag.target.1
  have hps : (Tryz.prog.info? 37).map (·.size) = some p.row.toArray.size := by rw [hpz]; kernel_rfl
  have hpzz : Tryz.zeroCells37.size = p.row.toArray.size := by rw [hpz]; kernel_rfl
  have hp1 : p.row.toArray.all (·.oneCell') = true := objL_one hg3
  have k34 : Kept [] w3 (w3.alloc (.cells p.row.toArray 37)) := (Kept.refl _ _).alloc _
  have k24 : Kept [] w2 (w3.alloc (.cells p.row.toArray 37)) := (((Kept.refl [] w2).alloc _).then k3).then k34
  have HKF : Hid (Kept [] w (w3.alloc (.cells p.row.toArray 37))) := ((HK0.out.then HK2.out).then k3).then k34
  have HO4 : Hid ((w3.alloc (.cells p.row.toArray 37)).heap[w2.heap.size]? = some (.cells orr 37 (0, 0))) := k34.heap (k3.heap HO2.out (by simp)) (by simp)
  have HP4 : Hid ((w3.alloc (.cells p.row.toArray 37)).heap[w3.heap.size]? = some (.cells p.row.toArray 37 (0, 0))) := heap_alloc_new w3 _
  have hsame := same_par xs HZ1.out HZ2.out z3 z4 _ (HG2.out _ k24) (hg3.kept k34)
  rw [HOR.out] at hsame
  clear hrp k3 hg3 z3 z4 hpz k34 k24 HG2 HZ1 HZ2
  generalize p.row.toArray = prr at *
  generalize parErr xs = er at *
  go_wp2_with (first
    | (refine wpList_store_new (by rfl) 37 (.tmp 9) (.tmp 53) (by rfl) w3 _ prr (by rfl) (by rfl) hps hpzz hp1 ?_)
    | (refine wpList_wantG (by rfl) (fun K hK => wp_load_row 37 (.tmp 7) (by rfl) w2.heap.size (by rfl) 37 orr (0, 0) _ HO4.out hun rfl hos (hK _ _ ?_)))
    | (refine wpList_wantG (by rfl) (fun K hK => wp_load_row 37 (.tmp 9) (by rfl) w3.heap.size (by rfl) 37 prr (0, 0) _ HP4.out hun rfl hps (hK _ _ ?_))))
  go_at_call 11
  refine hsame.mono ?_
  rintro e w5 ⟨rfl, k5⟩
  have HK5 : Hid (Kept [] w w5) := HKF.out.then k5
  clear hsame k5
  go_wp2
  go_ret
  exact ⟨rfl, HK5.out⟩
end Go.Proofs.YtfcoeinhfdbcgaaGreatDoor

namespace Go.Proofs.YtfcoeinhfdbcgaaGreatDoor
open Go.RowKit

theorem chX_id {xs : List Int} (ho : Octs xs) : ∀ k, k ∈ chX xs → k.id.length = 32 := fun k hk => by
  unfold chX at hk
  split at hk
  · rename_i h
    obtain ⟨hl, _⟩ := parErr_zero h
    unfold guessO at hk
    split at hk
    · cases hk
    · split at hk
      · obtain ⟨e, he, rfl⟩ := List.mem_map.1 hk
        exact (gEnts_good ho hl _ _ e he).id.1
      · split at hk
        · rcases List.mem_cons.1 hk with rfl | hk
          · exact (gCom_good ho hl).tree.1
          · obtain ⟨p, hp, rfl⟩ := List.mem_map.1 hk
            exact ((gCom_good ho hl).parents p hp).1
        · rw [List.mem_singleton.1 hk]; exact (gTag_good ho hl).target.1
  · cases hk

set_option maxRecDepth 100000 in
set_option maxHeartbeats 4000000 in
theorem holdsChil_any (a : AskL) (h1 : a.doo = 4) (w : World) (ha : AskL.Good w a) (hT : Tabs w) :
    Calls Tryz.prog 6 #[.agg a.row.toArray] w fun e w' => e = .returned (.bool true) ∧ Kept [] w w' := by
  have hk0 : Kept [] w (w.alloc (.cells a.row.toArray 39)) := (Kept.refl _ _).alloc _
  obtain ⟨ab, cb, hbv⟩ : ∃ ao cap, a.bv = .slice ao a.bs.length cap := by obtain ⟨x, y, h, _⟩ := ha.bv; exact ⟨x, y, h⟩
  have HC : Hid (∀ W, Kept [] (w.alloc (.cells a.row.toArray 39)) W → W.cell? ⟨w.heap.size, 0, none⟩ = some (.int .i64 4) ∧ W.cell? ⟨w.heap.size, 77, none⟩ = some (.slice ab a.bs.length cb)) := fun W k => by
    obtain ⟨q0, _, q2, _⟩ := ask_at (a := a) ha.o.com.tree.1 ha.o.tag.target.1 (k.heap (heap_alloc_new w (.cells a.row.toArray 39)) (by simp))
    rw [h1] at q0
    rw [hbv] at q2
    exact ⟨q0, q2⟩
  have HK0 : Hid (Kept [] w (w.alloc (.cells a.row.toArray 39))) := hk0
  have hs79 : a.row.toArray.size = 79 := by rw [List.size_toArray, ha.len]
  have hbt : BytesAt w (.slice ab a.bs.length cb) a.bs := by rw [← hbv]; exact ha.bv
  have hhd := handed_any _ a.bs _ (hbt.keep hk0 (fun _ _ _ => by simp)) (Nat.le_trans ha.bs.2 (by decide))
  have HP : Hid (∀ W v, Kept [] w W → BytesAt W v a.bs → Calls Tryz.prog 10 #[v] W (ChA W a.bs)) := fun W v k hv => Children_any v a.bs W hv ha.bs.1 (hT.kept k)
  have HR : Hid (∀ W, Kept [] w W → Calls Tryz.prog 20 #[.slice ab a.bs.length cb] W (ChA W a.bs)) := fun W k => R3Children_any _ a.bs W (hbt.keep k (fun _ _ _ => by simp)) ha.bs.1 ha.bs.2
  have HI : Hid (∀ k, k ∈ chX a.bs → k.id.length = 32) := chX_id ha.bs.1
  obtain ⟨g0, g77⟩ := HC.out _ (Kept.refl _ _)
  clear ha hT hk0 h1 hbv hbt
  generalize a.row.toArray = av at *
  generalize a.bs = xs at *
  go_enter Tryz.func6, Tryz.ntmps6
  go_wp2_with fail
  go_at_call 17
  refine hhd.mono ?_
  rintro e w1 ⟨a1, c1, rfl, hb1, k1⟩
  have HK1 : Hid (Kept [] (w.alloc (.cells av 39)) w1) := k1
  have hpar := HP.out w1 _ (HK0.out.then k1) hb1
  clear hhd k1 hb1 HP
  go_wp2_with fail
  go_at_call 10
  refine hpar.mono ?_
  rintro e w2 ⟨lv, rfl, hl2, k2⟩
  obtain ⟨la, lc, rfl, _⟩ := hl2.form
  have HK2 : Hid (Kept [] (w.alloc (.cells av 39)) w2) := HK1.out.then k2
  have HL2 : Hid (LinksAt w2 (.slice la (chX xs).length lc) (chX xs)) := hl2
  obtain ⟨_, g77b⟩ := HC.out _ HK2.out
  have hrp := HR.out _ (HK0.out.then HK2.out)
  clear hpar k2 hl2 HR
  go_wp2_with fail
  go_at_call 20
  refine hrp.mono ?_
  rintro e w3 ⟨mv, rfl, hl3, k3⟩
  obtain ⟨ma, mc, rfl, _⟩ := hl3.form
  have HKF : Hid (Kept [] w w3) := (HK0.out.then HK2.out).then k3
  have hsame := sameLinks_eq _ _ (chX xs) w3 (HL2.out.kept k3) hl3 HI.out
  clear hrp k3 hl3 HL2 HI
  generalize (chX xs).length = cn at *
  generalize parErr xs = er at *
  go_wp2_with fail
  go_at_call 21
  refine hsame.mono ?_
  rintro e w5 ⟨rfl, k5⟩
  have HK5 : Hid (Kept [] w w5) := HKF.out.then k5
  clear hsame k5
  go_wp2
  go_ret
  exact ⟨rfl, HK5.out⟩
end Go.Proofs.YtfcoeinhfdbcgaaGreatDoor

namespace Go.Proofs.YtfcoeinhfdbcgaaGreatDoor
open Go.RowKit

set_option maxRecDepth 100000 in
set_option maxHeartbeats 1000000 in
theorem Id_any (v : Value) (xs : List Int) (w : World) (hV : Vars w) (hx : BytesAt w v xs) (ho : Octs xs) (hn : xs.length ≤ 140737488355328) : Calls Tryz.prog 22 #[v] w fun e w' => e = .returned (.agg (idC (digL xs))) ∧ Kept [] w w' := by
  obtain ⟨ic, hic⟩ : ∃ ic, ic = idC (digL xs) := ⟨_, rfl⟩
  have hszi : (Tryz.prog.info? 29).map (·.size) = some ic.size := by rw [hic, idC_size (digL_len xs)]; exact Tryz.infoID
  have halli : ic.all (·.oneCell') = true := by rw [hic]; exact all_oneCell_toArray (map_oneCell _)
  have hosi : (idC zid).size = ic.size := by rw [hic, idC_size (digL_len xs)]; rfl
  have HI : Hid (ic = idC (digL xs)) := hic
  have kA : Kept [] w (w.alloc (.cells (idC zid) 29)) := (Kept.refl _ _).alloc _
  have hs : Calls Tryz.prog 39 #[v] (w.alloc (.cells (idC zid) 29)) fun e w' => e = .returned (.agg ic) ∧ Kept [] (w.alloc (.cells (idC zid) 29)) w' := by
    rw [hic]
    exact Sum_any _ v xs (hV.kept kA (by simp) (by simp)) (hx.kept kA (fun _ _ => by simp)) ho hn
  have HKA : Hid (Kept [] w (w.alloc (.cells (idC zid) 29))) := kA
  have HI0 : Hid ((w.alloc (.cells (idC zid) 29)).heap[w.heap.size]? = some (.cells (idC zid) 29 (0, 0))) := heap_alloc_new w _
  obtain ⟨ao, cap, rfl, _⟩ := hx
  clear hV ho hn hic kA
  go_enter Tryz.func22, Tryz.ntmps22
  go_wp2_with (first
    | (go_at_call 39; refine hs.mono ?_; rintro e w3 ⟨rfl, hk3⟩
       have HI3 : Hid (w3.heap[w.heap.size]? = some (.cells (idC zid) 29 (0, 0))) := hk3.heap HI0.out (by simp)
       have HK3 : Hid (Kept [] w w3) := HKA.out.then hk3
       clear hk3)
    | (refine wpList_store_row rfl 29 (.tmp 2) (.tmp 4) rfl w.heap.size ic rfl rfl 29 _ HI3.out hszi hosi halli ?_))
  refine bodyPost_ret (v := .agg ic) ?_ rfl ⟨by rw [HI.out], kept_setRow HK3.out (Nat.le_refl _) _⟩
  rw [results_cell rfl]
  have hld := run_loadVar_row (P := Tryz.prog) (w3.setRow w.heap.size ic) w.heap.size 29 29 ic (0, 0) _ (setRow_heap _ _ _ _ _ _ HI3.out) Tryz.underlying29 rfl hszi
  exact hld
set_option maxRecDepth 100000 in
set_option maxHeartbeats 1000000 in
theorem R3Id_any (v : Value) (xs : List Int) (w : World) (hV : VarsR w) (hx : BytesAt w v xs) (ho : Octs xs) (hn : xs.length ≤ 1000000000000) : Calls Tryz.prog 23 #[v] w fun e w' => e = .returned (.agg (idC (digL xs))) ∧ Kept [] w w' := by
  obtain ⟨ic, hic⟩ : ∃ ic, ic = idC (digL xs) := ⟨_, rfl⟩
  have hszi : (Tryz.prog.info? 29).map (·.size) = some ic.size := by rw [hic, idC_size (digL_len xs)]; exact Tryz.infoID
  have halli : ic.all (·.oneCell') = true := by rw [hic]; exact all_oneCell_toArray (map_oneCell _)
  have hosi : (idC zid).size = ic.size := by rw [hic, idC_size (digL_len xs)]; rfl
  have HI : Hid (ic = idC (digL xs)) := hic
  have kA : Kept [] w (w.alloc (.cells (idC zid) 29)) := (Kept.refl _ _).alloc _
  have hs : Calls Tryz.prog 40 #[v] (w.alloc (.cells (idC zid) 29)) fun e w' => e = .returned (.agg ic) ∧ Kept [] (w.alloc (.cells (idC zid) 29)) w' := by
    rw [hic]
    exact RSum_any _ (hV.kept kA (by simp) (by simp)) v xs (hx.kept kA (fun _ _ => by simp)) ho hn
  have HKA : Hid (Kept [] w (w.alloc (.cells (idC zid) 29))) := kA
  have HI0 : Hid ((w.alloc (.cells (idC zid) 29)).heap[w.heap.size]? = some (.cells (idC zid) 29 (0, 0))) := heap_alloc_new w _
  obtain ⟨ao, cap, rfl, _⟩ := hx
  clear hV ho hn hic kA
  go_enter Tryz.func23, Tryz.ntmps23
  go_wp2_with (first
    | (go_at_call 40; refine hs.mono ?_; rintro e w3 ⟨rfl, hk3⟩
       have HI3 : Hid (w3.heap[w.heap.size]? = some (.cells (idC zid) 29 (0, 0))) := hk3.heap HI0.out (by simp)
       have HK3 : Hid (Kept [] w w3) := HKA.out.then hk3
       clear hk3)
    | (refine wpList_store_row rfl 29 (.tmp 2) (.tmp 4) rfl w.heap.size ic rfl rfl 29 _ HI3.out hszi hosi halli ?_))
  refine bodyPost_ret (v := .agg ic) ?_ rfl ⟨by rw [HI.out], kept_setRow HK3.out (Nat.le_refl _) _⟩
  rw [results_cell rfl]
  have hld := run_loadVar_row (P := Tryz.prog) (w3.setRow w.heap.size ic) w.heap.size 29 29 ic (0, 0) _ (setRow_heap _ _ _ _ _ _ HI3.out) Tryz.underlying29 rfl hszi
  exact hld
end Go.Proofs.YtfcoeinhfdbcgaaGreatDoor

namespace Go.Proofs.YtfcoeinhfdbcgaaGreatDoor
open Go.RowKit

set_option maxRecDepth 100000 in
set_option maxHeartbeats 4000000 in
theorem holdsKind_any (a : AskL) (h1 : a.doo = 3) (w : World) (ha : AskL.Good w a) (hT : Tabs w) :
    Calls Tryz.prog 6 #[.agg a.row.toArray] w fun e w' => e = .returned (.bool true) ∧ Kept [] w w' := by
  have hk0 : Kept [] w (w.alloc (.cells a.row.toArray 39)) := (Kept.refl _ _).alloc _
  obtain ⟨ab, cb, hbv⟩ : ∃ ao cap, a.bv = .slice ao a.bs.length cap := by obtain ⟨x, y, h, _⟩ := ha.bv; exact ⟨x, y, h⟩
  have HC : Hid (∀ W, Kept [] (w.alloc (.cells a.row.toArray 39)) W → W.cell? ⟨w.heap.size, 0, none⟩ = some (.int .i64 3) ∧ W.cell? ⟨w.heap.size, 77, none⟩ = some (.slice ab a.bs.length cb)) := fun W k => by
    obtain ⟨q0, _, q2, _⟩ := ask_at (a := a) ha.o.com.tree.1 ha.o.tag.target.1 (k.heap (heap_alloc_new w (.cells a.row.toArray 39)) (by simp))
    rw [h1] at q0
    rw [hbv] at q2
    exact ⟨q0, q2⟩
  have HK0 : Hid (Kept [] w (w.alloc (.cells a.row.toArray 39))) := hk0
  have hs79 : a.row.toArray.size = 79 := by rw [List.size_toArray, ha.len]
  have hbt : BytesAt w (.slice ab a.bs.length cb) a.bs := by rw [← hbv]; exact ha.bv
  have hhd := handed_any _ a.bs _ (hbt.keep (hk0.then (Kept.refl [] (w.alloc (.cells a.row.toArray 39))).drew) (fun _ _ _ => by simp)) (Nat.le_trans ha.bs.2 (by decide))
  have HP : Hid (∀ W v, Kept [] w W → BytesAt W v a.bs → Calls Tryz.prog 13 #[v] W fun e w' => e = .returned (.int .i64 (kindX a.bs)) ∧ Kept [] W w') := fun W v k hv => Kind_any v a.bs W hv ha.bs.1 (hT.kept k)
  have HR : Hid (∀ W, Kept [] w W → Calls Tryz.prog 19 #[.slice ab a.bs.length cb] W fun e w' => e = .returned (.int .i64 (kindX a.bs)) ∧ Kept [] W w') := fun W k => R3Kind_any _ a.bs W (hbt.keep k (fun _ _ _ => by simp)) ha.bs.1 ha.bs.2
  obtain ⟨g0, g77⟩ := HC.out _ (Kept.refl _ _)
  have HKD : Hid (Kept [] (w.alloc (.cells a.row.toArray 39)) (w.alloc (.cells a.row.toArray 39)).drew) := (Kept.refl _ _).drew
  clear ha hT hk0 h1 hbv hbt
  generalize a.row.toArray = av at *
  generalize kindX a.bs = kx at *
  generalize a.bs = xs at *
  go_enter Tryz.func6, Tryz.ntmps6
  go_wp2_with fail
  go_region_with (first
    | (go_at_call 17; with_reducible refine hhd.mono ?_
       rintro e w1 ⟨a1, c1, rfl, hb1, k1⟩
       have HK1 : Hid (Kept [] (w.alloc (.cells av 39)) w1) := HKD.out.then k1
       have hpar := HP.out w1 _ (HK0.out.then HK1.out) hb1
       obtain ⟨p0, p77⟩ := HC.out w1 HK1.out
       clear k1 hb1)
    | (go_at_call 13; with_reducible refine hpar.mono ?_
       rintro e w2 ⟨rfl, k2⟩
       have HK2 : Hid (Kept [] (w.alloc (.cells av 39)) w2) := HK1.out.then k2
       have hrp := HR.out w2 (HK0.out.then HK2.out)
       obtain ⟨q0, q77⟩ := HC.out w2 HK2.out
       clear k2)
    | (go_at_call 19; with_reducible refine hrp.mono ?_
       rintro e w3 ⟨rfl, k3⟩
       have HK3 : Hid (Kept [] w w3) := (HK0.out.then HK2.out).then k3
       clear k3))
  all_goals (go_wp2; go_ret; exact ⟨rfl, HK3.out⟩)
end Go.Proofs.YtfcoeinhfdbcgaaGreatDoor

namespace Go.Proofs.YtfcoeinhfdbcgaaGreatDoor
open Go.RowKit

set_option maxRecDepth 100000 in
set_option maxHeartbeats 4000000 in
theorem holdsId_any (a : AskL) (h1 : a.doo = 5) (w : World) (ha : AskL.Good w a) (hV : Vars w) (hR : VarsR w) (hn : a.bs.length ≤ 1000000000000) :
    Calls Tryz.prog 6 #[.agg a.row.toArray] w fun e w' => e = .returned (.bool true) ∧ Kept [] w w' := by
  have hk0 : Kept [] w (w.alloc (.cells a.row.toArray 39)) := (Kept.refl _ _).alloc _
  obtain ⟨ab, cb, hbv⟩ : ∃ ao cap, a.bv = .slice ao a.bs.length cap := by obtain ⟨x, y, h, _⟩ := ha.bv; exact ⟨x, y, h⟩
  have HC : Hid (∀ W, Kept [] (w.alloc (.cells a.row.toArray 39)) W → W.cell? ⟨w.heap.size, 0, none⟩ = some (.int .i64 5) ∧ W.cell? ⟨w.heap.size, 77, none⟩ = some (.slice ab a.bs.length cb)) := fun W k => by
    obtain ⟨q0, _, q2, _⟩ := ask_at (a := a) ha.o.com.tree.1 ha.o.tag.target.1 (k.heap (heap_alloc_new w (.cells a.row.toArray 39)) (by simp))
    rw [h1] at q0
    rw [hbv] at q2
    exact ⟨q0, q2⟩
  have HK0 : Hid (Kept [] w (w.alloc (.cells a.row.toArray 39))) := hk0
  have hs79 : a.row.toArray.size = 79 := by rw [List.size_toArray, ha.len]
  have hbt : BytesAt w (.slice ab a.bs.length cb) a.bs := by rw [← hbv]; exact ha.bv
  have hhd := handed_any _ a.bs _ (hbt.keep (hk0.then (Kept.refl [] (w.alloc (.cells a.row.toArray 39))).drew) (fun _ _ _ => by simp)) (Nat.le_trans ha.bs.2 (by decide))
  have HP : Hid (∀ W v, Kept [] w W → BytesAt W v a.bs → Calls Tryz.prog 22 #[v] W fun e w' => e = .returned (.agg (idC (digL a.bs))) ∧ Kept [] W w') := fun W v k hv => Id_any v a.bs W (hV.kept k (by simp) (by simp)) hv ha.bs.1 (by omega)
  have HR : Hid (∀ W, Kept [] w W → Calls Tryz.prog 23 #[.slice ab a.bs.length cb] W fun e w' => e = .returned (.agg (idC (digL a.bs))) ∧ Kept [] W w') := fun W k => R3Id_any _ a.bs W (hR.kept k (by simp) (by simp)) (hbt.keep k (fun _ _ _ => by simp)) ha.bs.1 hn
  have hself : ∀ W, (Op.equalIn 10000 29 (.agg (idC (digL a.bs))) (.agg (idC (digL a.bs)))).run Tryz.prog W = .ok true W := fun W => idSelf 9998 (digL a.bs) W (digL_len _)
  have heqA := fun W => run_id_eql (.tmp 101) (.tmp 104) (idC (digL a.bs)) (idC (digL a.bs)) W true (hself W)
  have heqC : ∀ W, Sem.run Tryz.prog (eqGuard .eql 29 (.tmp 101) (.tmp 104) (.agg (idC (digL a.bs))) (.agg (idC (digL a.bs)))) W = .ok () W := fun W => run_eqGuard_agg W .eql 29 _ _ _ _ (by kernel_rfl)
  have heqB : ∀ W, Sem.run Tryz.prog (binOp .eql 29 (.agg (idC (digL a.bs))) (.agg (idC (digL a.bs)))) W = .ok (.bool true) W := fun W => by
    have h := heqA W
    rw [Sem.run_bind, heqC W, Result.andThen_ok] at h
    exact h
  clear hself
  obtain ⟨g0, g77⟩ := HC.out _ (Kept.refl _ _)
  have HKD : Hid (Kept [] (w.alloc (.cells a.row.toArray 39)) (w.alloc (.cells a.row.toArray 39)).drew) := (Kept.refl _ _).drew
  clear ha hV hR hk0 h1 hbv hbt
  generalize a.row.toArray = av at *
  generalize idC (digL a.bs) = kx at *
  generalize a.bs = xs at *
  go_enter Tryz.func6, Tryz.ntmps6
  go_wp2_with fail
  go_region_with (first
    | (go_at_call 17; with_reducible refine hhd.mono ?_
       rintro e w1 ⟨a1, c1, rfl, hb1, k1⟩
       have HK1 : Hid (Kept [] (w.alloc (.cells av 39)) w1) := HKD.out.then k1
       have hpar := HP.out w1 _ (HK0.out.then HK1.out) hb1
       obtain ⟨p0, p77⟩ := HC.out w1 HK1.out
       clear k1 hb1)
    | (go_at_call 22; with_reducible refine hpar.mono ?_
       rintro e w2 ⟨rfl, k2⟩
       have HK2 : Hid (Kept [] (w.alloc (.cells av 39)) w2) := HK1.out.then k2
       have hrp := HR.out w2 (HK0.out.then HK2.out)
       obtain ⟨q0, q77⟩ := HC.out w2 HK2.out
       clear k2)
    | (go_at_call 23; with_reducible refine hrp.mono ?_
       rintro e w3 ⟨rfl, k3⟩
       have HK3 : Hid (Kept [] w w3) := (HK0.out.then HK2.out).then k3
       clear k3))
  all_goals (go_wp2; go_ret; exact ⟨rfl, HK3.out⟩)
end Go.Proofs.YtfcoeinhfdbcgaaGreatDoor
