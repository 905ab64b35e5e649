/-
  ASKS OPENED: what a reading of them says of memory.
  WALKS: an Ask to encode: (satchellaw3.Ask).holds.
  WALKS: an Ask of a name, and one of nothing, over whole Asks.
  APPEND of one struct of k cells to a list of one's own; a list of one struct made anew.
  Links: a list of them that one owns and appends to; WALK: (object.commit).children.
-/
import Derived.Test.YtfcoeinhfdbcgaaGreatDoorEncBlob
import Derived.Test.YtfcoeinhfdbcgaaGreatDoorReadC
import Derived.Test.YtfcoeinhfdbcgaaGreatDoorTwin
import Derived.Test.YtfcoeinhfdbcgaaGreatDoorEqA
import Derived.Deep.QuietTactic
import Derived.Test.YtfcoeinhfdbcgaaGreatDoorSg2
import Derived.Test.YtfcoeinhfdbcgaaGreatDoorRe1
import Derived.Test.YtfcoeinhfdbcgaaGreatDoorCom0
import Derived.Maps.AppendAt
import Derived.Great.BuildSlice
import Derived.Deep.RegionLaw
import Derived.Test.YtfcoeinhfdbcgaaGreatDoorCom3
namespace Go.Proofs.YtfcoeinhfdbcgaaGreatDoor
open Go.ChangeShapes Go.WideShapes Go.ChangeAt Go.RowKit Go.Deep

/-- An Ask, whole. -/
structure AskL where
  doo : Int
  o : ObjL
  bv : Value
  bs : List Int
  name : List Int
def AskL.row (a : AskL) : List Value := [.int .i64 a.doo] ++ (a.o.row ++ ([a.bv] ++ [.string (strOfNums a.name)]))
structure AskL.Good (w : World) (a : AskL) : Prop where
  lo : -9223372036854775808 ≤ a.doo
  hi : a.doo ≤ 9223372036854775807
  o : ObjL.Good w a.o
  fits : a.o.Fits
  bv : BytesAt w a.bv a.bs
  bs : GoodText a.bs
  name : GoodText a.name
/-- The slice of the asks lies so. -/
def AsksL (w : World) (v : Value) (aks : List AskL) : Prop :=
  ∃ ao cap, v = .slice ao aks.length cap ∧ aks.length ≤ 140737488351232 ∧
    (aks ≠ [] → ∃ b off, ao = some ⟨b, off, none⟩ ∧ ∀ (i : Nat) (a : AskL), aks[i]? = some a → w.rangeAt b (off + i * 79) a.row)
theorem AsksL.kept {w w' : World} {v : Value} {aks : List AskL} (h : AsksL w v aks) (k : Kept [] w w') : AsksL w' v aks := by
  obtain ⟨ao, cap, rfl, hl, hc⟩ := h
  refine ⟨ao, cap, rfl, hl, fun hne => ?_⟩
  obtain ⟨b, off, rfl, hh⟩ := hc hne
  exact ⟨b, off, rfl, fun i a ha => range_kept (hh i a ha) k (by simp)⟩
theorem AskL.Good.kept {w w' : World} {a : AskL} (h : AskL.Good w a) (k : Kept [] w w') : AskL.Good w' a :=
  ⟨h.lo, h.hi, h.o.kept k, h.fits, h.bv.keep k (fun _ _ _ => by simp), h.bs, h.name⟩
theorem ask_len {a : AskL} (hc : a.o.com.tree.length = 32) (ht : a.o.tag.target.length = 32) : a.row.length = 79 := by
  unfold AskL.row
  rw [List.length_append, List.length_append, objL_len hc ht]
  rfl
theorem AskL.Good.len {w : World} {a : AskL} (h : AskL.Good w a) : a.row.length = 79 := ask_len h.o.com.tree.1 h.o.tag.target.1

theorem Tryz.cells_ask : Tryz.prog.cellsOf 39 = 79 := by kernel_rfl
theorem Tryz.bytes_ask : Tryz.prog.bytesOf 39 = 296 := by kernel_rfl
theorem Tryz.cells_asks : Tryz.prog.cellsOf 24 = 1 := by kernel_rfl
theorem Tryz.cells_askl : Tryz.prog.cellsOf 22 = 1 := by kernel_rfl
instance : Inhabited AskL := ⟨⟨0, default, .slice none 0 0, [], []⟩⟩


section
variable {H : Type} {enc : TypeId × Value → H} {w : World} {base : Nat} {spare : Nat → Bool} {held : Bool} {fuel : Nat} {cs : List Value} {x : DataW H × List MemPlace}

theorem open_askU (h : DataW.trod enc Tryz.prog w base spare held fuel 39 cs = some x) : ∃ a : AskL, cs = a.row ∧ ((DataW.weights Tryz.prog 39 x.1).all (· ≤ 140737488351232) = true → AskL.Good w a) ∧ a.bs.length ≤ Rows.uptoBulk x.1 := by
  obtain ⟨zs, n, rfl, rfl, hlen, hxs, hfl⟩ := DataW.trod_struct Tryz.underlying39 h
  rw [Tryz.cells_ask] at hlen
  have f0 := hfl 0 _ rfl
  have f1 := hfl 1 _ rfl
  have f2 := hfl 2 _ rfl
  have f3 := hfl 3 _ rfl
  match zs, hxs with
  | [y0, y1, y2, y3], _ =>
    simp [Tryz.cells_int, Tryz.cells_bytes, Tryz.cells_obj, Tryz.cells_str] at f0 f1 f2 f3
    obtain ⟨kd, e0, l1, l2⟩ := open_int f0
    obtain ⟨o, e1, k1⟩ := open_obj f1
    obtain ⟨ao, cap, bs, e2, hb2, o2, k2, kb⟩ := open_bytes f2
    obtain ⟨s3, e3, o3, k3⟩ := open_str f3
    have c : cs = cs.take 1 ++ ((cs.drop 1).take 76 ++ ((cs.drop 77).take 1 ++ (cs.drop 78).take 1)) := cut4 cs 1 76 1 1 hlen
    rw [List.drop_one] at c
    rw [e0, e1, e2, e3] at c
    refine ⟨⟨kd, o, .slice ao bs.length cap, bs, s3⟩, c, fun hB => ?_, ?_⟩
    · simp only [DataW.weights, Tryz.underlying39, DataW.weightsEach, List.map_cons, List.map_nil, List.append_nil, List.all_append, Bool.and_eq_true] at hB
      obtain ⟨_, b1, b2, b3⟩ := hB
      exact ⟨l1, l2, (k1 b1).1, (k1 b1).2, hb2, ⟨o2, k2 _ b2⟩, ⟨o3, k3 _ b3⟩⟩
    · simp only [Rows.uptoBulk, Rows.uptoBulkAll, List.map_cons, List.map_nil]
      omega

set_option maxRecDepth 100000 in
/-- The asks, opened. -/
theorem open_asksU {r : Reach} {b0 : Nat} {v : Value} {d : DataW H} {p : List MemPlace} (hv : Value.okWide Tryz.prog w r b0 24 v) (h : DataW.Trod enc Tryz.prog w base spare held 24 v d p)
    (hB : (DataW.weights Tryz.prog 24 d).all (· ≤ 140737488351232) = true) :
    ∃ u aks, v = .agg #[u] ∧ AsksL w u aks ∧ (∀ a, a ∈ aks → AskL.Good w a) ∧ ∀ a, a ∈ aks → a.bs.length ≤ Rows.uptoBulk d := by
  obtain ⟨vs, rfl, hsz⟩ := okWide_struct Tryz.underlying24 hv
  rw [Tryz.cells_asks] at hsz
  obtain ⟨fuel, hf0⟩ := h
  obtain ⟨zs, n, rfl, hx, hlen, hxs, hfl⟩ := DataW.trod_struct Tryz.underlying24 hf0
  simp only [Prod.mk.injEq] at hx
  obtain ⟨rfl, _⟩ := hx
  obtain ⟨l⟩ := vs
  match l, hsz with
  | [u], _ =>
    have hf := hfl 0 _ rfl
    match zs, hxs with
    | [y0], _ =>
      simp [Tryz.cells_askl, Value.cells] at hf
      simp only [DataW.weights, Tryz.underlying24, DataW.weightsEach, List.map_cons, List.map_nil, List.append_nil] at hB
      obtain ⟨ao, cap, ls, e, h1, h0, hc, hBB, hKK⟩ := open_rowlU AskL.row (AskL.Good w) (fun a => a.bs.length) 140737488351232 Tryz.underlying22 Tryz.cells_ask (by decide) hf (fun _ _ _ => open_askU)
      simp only [List.cons.injEq, and_true] at e
      subst e
      rw [Tryz.bytes_ask] at hBB
      exact ⟨_, ls, rfl, ⟨ao, cap, rfl, by have := (hBB hB).1; omega, hc⟩, (hBB hB).2, fun a ha => by
        have h := hKK a ha
        simp only [Rows.uptoBulk, Rows.uptoBulkAll, List.map_cons, List.map_nil]
        omega⟩
set_option maxRecDepth 100000 in
theorem open_asksL {r : Reach} {b0 : Nat} {v : Value} {d : DataW H} {p : List MemPlace} (hv : Value.okWide Tryz.prog w r b0 24 v) (h : DataW.Trod enc Tryz.prog w base spare held 24 v d p)
    (hB : (DataW.weights Tryz.prog 24 d).all (· ≤ 140737488351232) = true) :
    ∃ u aks, v = .agg #[u] ∧ AsksL w u aks ∧ (∀ a, a ∈ aks → AskL.Good w a) := by
  obtain ⟨u, aks, h1, h2, h3, _⟩ := open_asksU hv h hB
  exact ⟨u, aks, h1, h2, h3⟩
end
end Go.Proofs.YtfcoeinhfdbcgaaGreatDoor

namespace Go.Proofs.YtfcoeinhfdbcgaaGreatDoor
open Go.RowKit

theorem ask_at {a : AskL} (hc : a.o.com.tree.length = 32) (ht : a.o.tag.target.length = 32) {w : World} {b : Nat} {ty : TypeId} {fr : Nat × Nat} (h : w.heap[b]? = some (.cells a.row.toArray ty fr)) :
    w.cell? ⟨b, 0, none⟩ = some (.int .i64 a.doo) ∧ w.rangeAt b 1 a.o.row ∧ w.cell? ⟨b, 77, none⟩ = some a.bv ∧ w.cell? ⟨b, 78, none⟩ = some (.string (strOfNums a.name)) := by
  have hr := row_range h
  have key : ∀ j v, a.row[j]? = some v → w.cell? ⟨b, j, none⟩ = some v := fun j v hj => by
    have := hr j v hj
    rwa [Nat.zero_add] at this
  have hl := objL_len hc ht
  have tail : ∀ j v, ([a.bv] ++ [Value.string (strOfNums a.name)])[j]? = some v → a.row[77 + j]? = some v := fun j v hj => by
    unfold AskL.row
    rw [List.getElem?_append_right (by show 1 ≤ 77 + j; omega), show (77 + j - [Value.int .i64 a.doo].length) = 76 + j by show 77 + j - 1 = 76 + j; omega, List.getElem?_append_right (by omega), hl, Nat.add_sub_cancel_left]
    exact hj
  refine ⟨key 0 _ rfl, fun j v hj => key _ v ?_, key 77 _ (tail 0 _ rfl), key 78 _ (tail 1 _ rfl)⟩
  unfold AskL.row
  rw [List.getElem?_append_right (by show 1 ≤ 1 + j; omega), show (1 + j - [Value.int .i64 a.doo].length) = j by show 1 + j - 1 = j; omega, List.getElem?_append_left (List.getElem?_eq_some_iff.1 hj).1]
  exact hj

theorem twin_err (o : ObjL) (bv ev pv : Value) : errO { o with bv := bv, ev := ev, pv := pv } = errO o ∧ encO { o with bv := bv, ev := ev, pv := pv } = encO o := ⟨rfl, rfl⟩

set_option maxRecDepth 100000 in
set_option maxHeartbeats 4000000 in
theorem holdsEnc_any (a : AskL) (h1 : a.doo = 1) (w : World) (ha : AskL.Good w a) (hT : Tabs w) :
    Calls Tryz.prog 6 #[.agg a.row.toArray] w fun e w' => e = .returned (.bool true) ∧ Kept [] w w' := by
  have hk0 : Kept [] w (w.alloc (.cells a.row.toArray 39)) := (Kept.refl _ _).alloc _
  have HC : Hid (∀ W, Kept [] (w.alloc (.cells a.row.toArray 39)) W → W.cell? ⟨w.heap.size, 0, none⟩ = some (.int .i64 1) ∧ W.rangeAt w.heap.size 1 a.o.row) := fun W k => by
    obtain ⟨q0, q1, _, _⟩ := ask_at (a := a) ha.o.com.tree.1 ha.o.tag.target.1 (k.heap (heap_alloc_new w (.cells a.row.toArray 39)) (by simp))
    rw [h1] at q0
    exact ⟨q0, q1⟩
  have HK0 : Hid (Kept [] w (w.alloc (.cells a.row.toArray 39))) := hk0
  have hsz : (Tryz.prog.info? 37).map (·.size) = some a.o.row.length := by rw [objL_len ha.o.com.tree.1 ha.o.tag.target.1]; kernel_rfl
  have hun := Tryz.underlying37
  have hs79 : a.row.toArray.size = 79 := by rw [List.size_toArray, ha.len]
  have htw := twin_any a.o _ (ha.o.kept hk0) ha.fits
  have HE : Hid (∀ bv ev pv W, ObjL.Good W { a.o with bv := bv, ev := ev, pv := pv } → Kept [] w W → Calls Tryz.prog 8 #[.agg ({ a.o with bv := bv, ev := ev, pv := pv } : ObjL).row.toArray] W (EncA W (errO a.o) (encO a.o))) := fun bv ev pv W hW k => Encode_any { a.o with bv := bv, ev := ev, pv := pv } W (hT.kept k) hW
  have HR : Hid (∀ W, Kept [] w W → Calls Tryz.prog 15 #[.agg a.o.row.toArray] W fun e w' => ∃ v, e = .returned (.tuple #[v, .int .i64 (errO a.o)]) ∧ BytesAt w' v (if errO a.o = 0 then encO a.o else []) ∧ Kept [] W w') := fun W k => R3Enc_any a.o W (ha.o.kept k)
  obtain ⟨g0, g1⟩ := HC.out _ (Kept.refl _ _)
  have hxl := errO_len a.o
  clear ha hT hk0 h1
  generalize a.row.toArray = av at *
  generalize errO a.o = er at *
  obtain ⟨X, hX⟩ : ∃ X, X = if er = 0 then encO a.o else [] := ⟨_, rfl⟩
  rw [← hX] at HR hxl
  have HX : Hid (X = if er = 0 then encO a.o else []) := hX
  clear hX
  generalize a.o.row = orr at *
  go_enter Tryz.func6, Tryz.ntmps6
  go_wp2_with (refine wpList_load_mid (by rfl) 37 (.tmp 20) (by rfl) w.heap.size 1 (by rfl) orr _ g1 hun rfl hsz ?_)
  go_at_call 14
  refine htw.mono ?_
  rintro e w1 ⟨bv, ev, pv, rfl, hg1, k1⟩
  have HK1 : Hid (Kept [] (w.alloc (.cells av 39)) w1) := k1
  have henc := HE.out bv ev pv w1 hg1 (HK0.out.then k1)
  clear htw k1 hg1 HE
  generalize ({ a.o with bv := bv, ev := ev, pv := pv } : ObjL).row.toArray = pr at *
  go_wp2_with fail
  go_at_call 8
  refine henc.mono ?_
  rintro e w2 ⟨v2, rfl, b2, _, k2⟩
  have HK2 : Hid (Kept [] (w.alloc (.cells av 39)) w2) := HK1.out.then k2
  obtain ⟨_, g2⟩ := HC.out w2 HK2.out
  rw [← HX.out] at b2
  have hr := HR.out w2 (HK0.out.then HK2.out)
  have HB2 : Hid (BytesAt w2 v2 X) := b2
  clear henc k2 b2 HR
  go_wp2_with (refine wpList_load_mid (by rfl) 37 (.tmp 27) (by rfl) w.heap.size 1 (by rfl) orr _ g2 hun rfl hsz ?_)
  go_at_call 15
  refine hr.mono ?_
  rintro e w3 ⟨v3, rfl, b3, k3⟩
  have HK3 : Hid (Kept [] w w3) := (HK0.out.then HK2.out).then k3
  have b2' : BytesAt w3 v2 X := HB2.out.keep k3 (fun _ _ _ => by simp)
  have heq := Eq_same b2' b3 (by omega)
  clear hr k3 b3 b2' HB2 HX
  go_wp2_with fail
  go_at_call 16
  refine heq.mono ?_
  rintro e w4 ⟨rfl, n4, rfl⟩
  go_wp2
  go_ret
  exact ⟨rfl, HK3.out.drewN _⟩
end Go.Proofs.YtfcoeinhfdbcgaaGreatDoor

namespace Go.Proofs.YtfcoeinhfdbcgaaGreatDoor
open Go.RowKit

set_option maxRecDepth 100000 in
set_option maxHeartbeats 4000000 in
theorem holdsNameL_any (a : AskL) (h6 : a.doo = 6) (w : World) (ha : AskL.Good w a) (hT : Tabs w) :
    Calls Tryz.prog 6 #[.agg a.row.toArray] w fun e w' => e = .returned (.bool true) ∧ Kept [] w w' := by
  have HC : Hid (∀ W, Kept [] (w.alloc (.cells a.row.toArray 39)) W → W.cell? ⟨w.heap.size, 0, none⟩ = some (.int .i64 6) ∧ W.cell? ⟨w.heap.size, 78, none⟩ = some (.string (strOfNums a.name))) := fun W k => by
    obtain ⟨q0, _, _, q3⟩ := ask_at (a := a) ha.o.com.tree.1 ha.o.tag.target.1 (k.heap (heap_alloc_new w (.cells a.row.toArray 39)) (by simp))
    rw [h6] at q0
    exact ⟨q0, q3⟩
  have hsz : a.row.toArray.size = 79 := by rw [List.size_toArray, ha.len]
  have HK0 : Hid (Kept [] w (w.alloc (.cells a.row.toArray 39))) := (Kept.refl _ _).alloc _
  have HN : Hid (∀ W, Kept [] w W → Calls Tryz.prog 12 #[.string (strOfNums a.name)] W fun e w' => e = .returned (.bool (nameB a.name)) ∧ Kept [] W w') := fun W k => Name_any a.name ha.name.1 W (Nat.le_trans ha.name.2 (by decide)) (hT.kept k)
  have HR : Hid (∀ W, Calls Tryz.prog 24 #[.string (strOfNums a.name)] W fun e w' => e = .returned (.bool (nameB a.name)) ∧ w' = W) := fun W => RName_any a.name ha.name.1 (by have := ha.name.2; omega) W
  obtain ⟨g0, g78⟩ := HC.out _ (Kept.refl _ _)
  generalize a.row.toArray = av at *
  generalize strOfNums a.name = S at *
  generalize nameB a.name = bn at *
  have hn := fun W k => HN.out W (HK0.out.then k)
  clear ha h6 hT
  go_enter Tryz.func6, Tryz.ntmps6
  go_wp2_with fail
  go_region_with (first
    | (go_at_call 12; with_reducible refine (hn _ ((Kept.refl [] (w.alloc (.cells av 39))).drew)).mono ?_
       rintro e w1 ⟨rfl, k1⟩
       have k2 : Kept [] (w.alloc (.cells av 39)) w1 := ((Kept.refl [] (w.alloc (.cells av 39))).drew).then k1
       obtain ⟨p0, p78⟩ := HC.out w1 k2
       have HK1 : Hid (Kept [] w w1) := HK0.out.then k2
       clear k1 k2)
    | (go_at_call 24; with_reducible refine (HR.out _).mono ?_
       rintro e w2 ⟨rfl, hw2⟩
       subst w2))
  all_goals (cases bn <;> (go_wp2; go_ret; exact ⟨rfl, HK1.out⟩))

set_option maxRecDepth 100000 in
set_option maxHeartbeats 4000000 in
theorem holdsRest_any (a : AskL) (h : ¬ (1 ≤ a.doo ∧ a.doo ≤ 6)) (w : World) (ha : AskL.Good w a) :
    Calls Tryz.prog 6 #[.agg a.row.toArray] w fun e w' => e = .returned (.bool true) ∧ Kept [] w w' := by
  obtain ⟨g0, _, _, _⟩ := ask_at (a := a) ha.o.com.tree.1 ha.o.tag.target.1 (heap_alloc_new w (.cells a.row.toArray 39))
  have hsz : a.row.toArray.size = 79 := by rw [List.size_toArray, ha.len]
  have HK0 : Hid (Kept [] w (w.alloc (.cells a.row.toArray 39))) := (Kept.refl _ _).alloc _
  clear ha
  generalize a.row.toArray = av at *
  generalize a.doo = d at *
  have d1 : decide (d = 1) = false := by simp; omega
  have d2 : decide (d = 2) = false := by simp; omega
  have d3 : decide (d = 3) = false := by simp; omega
  have d4 : decide (d = 4) = false := by simp; omega
  have d5 : decide (d = 5) = false := by simp; omega
  have d6 : decide (d = 6) = false := by simp; omega
  go_enter Tryz.func6, Tryz.ntmps6
  go_wp2
  go_ret
  exact ⟨rfl, HK0.out⟩
end Go.Proofs.YtfcoeinhfdbcgaaGreatDoor

namespace Go.Proofs.YtfcoeinhfdbcgaaGreatDoor
open Go.RowKit

theorem step_append_k {ops : Array Oper} {o : Oper} {a : Act} {w : World} {K : Act → World → Prop} {Q : Exit → Act → World → Prop} {E : Prop} (hgd : o.guard = none) (s x : Operand) (T e : TypeId) (z : Value) (k bytes : Nat)
    (hT : Tryz.prog.underlying T = some (.slice e)) (hinfo : (Tryz.prog.info? e).map (fun i => (i.zero, i.size, i.bytes)) = some (some z, k, bytes)) (hzk : z.cells.size = k) (hk : 0 < k)
    (ho : o.op = .call { callee := .builtin .append, args := #[s, x], argTypes := #[T, T] }) {B : Nat} {v : Value} {n : Nat} {xs : List Value} (hs : a.eval s = v) (hown : w.ownsRow B e k v n xs)
    {q : Nat} {us : List Value} (hx : a.eval x = .slice (some ⟨q, 0, none⟩) 1 1) (hul : us.length = k) (hc : w.rangeAt q 0 us) (hu : ∀ u, u ∈ us → u.oneCell' = true) (hl : n ≤ 1000000) (hb : bytes ≤ 1000) (hB : B ≤ w.heap.size)
    (h : ∀ v' w', w'.ownsRow B e k v' (n + 1) (xs ++ us) → Kept v.ownBlock.toList w w' → (v'.ownBlock = v.ownBlock ∨ v'.ownBlock = some w.heap.size) → K (a.put o.dst v') w') : if Region.wanted o (yielded ops a.tmps) = true then Oper.wp Tryz.prog o a w K Q else E := by
  have hw : Region.wanted o (yielded ops a.tmps) = true := by simp [Region.wanted, hgd]
  rw [if_pos hw]
  obtain ⟨i0, hi, hez⟩ := Option.map_eq_some_iff.1 hinfo
  simp only [Prod.mk.injEq] at hez
  obtain ⟨q0, q1, q2⟩ := hez
  have hnews : ∀ j t, us[j]? = some t → w.cell? ((⟨q, 0, none⟩ : Addr).add j) = some t := fun j t ht => by
    rw [Addr.add_mid]
    exact hc j t ht
  have hmul : (n + 1) * bytes ≤ (1000000 + 1) * 1000 := Nat.mul_le_mul (by omega) hb
  obtain ⟨v', w', hr, h2, h3, _, h5⟩ := run_append_own_at (P := Tryz.prog) w B T o.type e i0 z k bytes hT hi q0 q1 q2 hzk hk v n xs hown ⟨q, 0, none⟩ 1 1 us (by rw [hul, Nat.one_mul]) hnews hu (by unfold maxLen; omega) (by omega) hB
  unfold Oper.wp execOp
  simp only [ho, resolve, invoke, builtin, Sem.run_bind, Sem.run_pure, Result.andThen_ok, List.map_toArray, List.map_cons, List.map_nil, hs, hx, hr]
  exact h v' w' h2 ((Kept.refl _ _).grown h3 fun k hk => Or.inl (by simp [hk])) h5
theorem run_build_k {t e : TypeId} {z : List Value} {k bytes : Nat} (hT : Tryz.prog.underlying t = some (.slice e)) (hinfo : (Tryz.prog.info? e).map (fun i => (i.zero, i.size, i.bytes)) = some (some (.agg z.toArray), k, bytes)) (hk : 0 < k) (hk2 : k ≤ 1000) (us : List Value) (hul : us.length = k) (W : World) :
    (Instr.buildSlice t 1 #[(0, .agg us.toArray)]).run Tryz.prog W = .ok (.slice (some ⟨W.heap.size, 0, none⟩) 1 1) (W.alloc (.cells us.toArray e)) := by
  obtain ⟨i0, hi, hez⟩ := Option.map_eq_some_iff.1 hinfo
  simp only [Prod.mk.injEq] at hez
  obtain ⟨q0, q1, q2⟩ := hez
  refine run_buildSlice W t e 1 _ us.toArray i0 (.agg z.toArray) hT hi q0 (by rw [q1]; omega) (by rw [q1]; omega) ?_
  have hsz : ((Array.range (1 * i0.size)).map ((Value.agg z.toArray).cells[· % (Value.agg z.toArray).cells.size]!)).size = k := by simp [q1]
  generalize (Array.range (1 * i0.size)).map ((Value.agg z.toArray).cells[· % (Value.agg z.toArray).cells.size]!) = C at *
  obtain ⟨C⟩ := C
  show Instr.fill (fun i => some (i * i0.size, i0.size)) C.toArray [(0, .agg us.toArray)] = some us.toArray
  have hC : C.length = k := by simpa using hsz
  rw [fill_step (fun i => some (i * i0.size, i0.size)) C.toArray 0 (.agg us.toArray) [] 0 k (by simp [q1]) (by show us.toArray.size = k; simpa using hul) (by simp [hC])]
  have e1 : (Value.agg us.toArray).cells.toList = us := rfl
  rw [e1, setL_put _ _ _ (by omega), fill_nil]
  unfold putL
  rw [List.take_zero, List.nil_append, Nat.zero_add, hul, List.drop_eq_nil_of_le (by omega), List.append_nil]
theorem ownsK_on {w w' : World} {B : Nat} {e : TypeId} {k : Nat} {v : Value} {n : Nat} {xs : List Value} {T : List Nat} (h : w.ownsRow B e k v n xs) (q : Kept T w w') (hn : ∀ g, v.ownBlock = some g → g ∉ T) : w'.ownsRow B e k v n xs := by
  obtain ⟨hl, h | ⟨g, cap, cur, hv, hB, hg, h1, h2, h3, h4⟩⟩ := h
  · exact ⟨hl, Or.inl h⟩
  · refine ⟨hl, Or.inr ⟨g, cap, cur, hv, hB, q.heap hg (hn g (by rw [hv]; rfl)), h1, h2, h3, h4⟩⟩
theorem fold_setL : ∀ (l : List Value) (o : Nat) (C : Array Value), List.foldl (fun (cs : Array Value) (x : Value × Nat) => cs.setIfInBounds x.snd x.fst) C (l.zipIdx o) = setL C o l
  | [], _, _ => rfl
  | v :: l, o, C => by
    simp only [List.zipIdx_cons, List.foldl_cons]
    exact fold_setL l (o + 1) (C.setIfInBounds o v)
theorem fold_setL' (a : Nat) : ∀ (l : List Value) (o : Nat) (C : Array Value), List.foldl (fun (cs : Array Value) (x : Value × Nat) => cs.setIfInBounds (a + x.snd) x.fst) C (l.zipIdx o) = setL C (a + o) l
  | [], _, _ => rfl
  | v :: l, o, C => by
    simp only [List.zipIdx_cons, List.foldl_cons]
    exact fold_setL' a l (o + 1) (C.setIfInBounds (a + o) v)
theorem fold_two (l : List Value) (b c : Value) (C : List Value) (h : C.length = l.length) : List.foldl (fun (cs : Array Value) (x : Value × Nat) => cs.setIfInBounds (2 + x.snd) x.fst) (b :: c :: C).toArray l.zipIdx = (b :: c :: l).toArray := by
  rw [fold_setL' 2 l 0, setL_put _ _ _ (by simp; omega)]
  unfold putL
  show (([b, c] ++ l) ++ List.drop (2 + 0 + l.length) (b :: c :: C)).toArray = _
  rw [List.drop_eq_nil_of_le (by simp; omega), List.append_nil]
  rfl
theorem fold_all (l : List Value) (C : List Value) (h : C.length = l.length) : List.foldl (fun (cs : Array Value) (x : Value × Nat) => cs.setIfInBounds x.snd x.fst) C.toArray l.zipIdx = l.toArray := by
  rw [fold_setL l 0, setL_put _ _ _ (by omega)]
  unfold putL
  rw [List.take_zero, List.nil_append, Nat.zero_add, List.drop_eq_nil_of_le (by omega), List.append_nil]
/-- Such a list, row by row. -/
theorem ownsK_rows {w : World} {B : Nat} {e : TypeId} {k : Nat} (hk : 0 < k) {v : Value} {rows : List (List Value)} (hr : ∀ r, r ∈ rows → r.length = k) (h : w.ownsRow B e k v rows.length rows.flatten) (hn : rows.length ≤ 140737488351232) : RowsAt w v k rows := by
  obtain ⟨hl, ⟨rfl, h0⟩ | ⟨g, cap, cur, rfl, hB, hg, h1, h2, h3, h4⟩⟩ := h
  · have e0 : rows = [] := by
      cases rows with
      | nil => rfl
      | cons r rs => simp at h0
    subst e0
    exact ⟨none, 0, rfl, Nat.le_refl _, fun _ => rfl, by simp, fun e => absurd rfl e⟩
  · refine ⟨_, cap, rfl, h1, fun e => by simp at e, hn, fun _ => ⟨g, 0, rfl, fun i cs hi j u hj => ?_⟩⟩
    rw [cell_of_row _ _ _ _ _ _ hg, Nat.zero_add]
    have hjk : j < k := by
      have := (List.getElem?_eq_some_iff.1 hj).1
      have := hr cs (List.mem_of_getElem? hi)
      omega
    have hi2 : i < rows.length := (List.getElem?_eq_some_iff.1 hi).1
    have e1 : rows.flatten[i * k + j]? = some u := by
      rw [flat_bind k hk rows hr, Nat.mul_comm i k, Nat.mul_add_div hk, Nat.div_eq_of_lt hjk, Nat.add_zero, hi, Nat.mul_add_mod, Nat.mod_eq_of_lt hjk]
      exact hj
    rw [← h4, List.getElem?_take_of_lt ?_] at e1
    · rw [← e1, Array.getElem?_toList]
    · have : i * k + k ≤ rows.length * k := by rw [← Nat.succ_mul]; exact Nat.mul_le_mul_right k hi2
      omega
end Go.Proofs.YtfcoeinhfdbcgaaGreatDoor

namespace Go.Proofs.YtfcoeinhfdbcgaaGreatDoor
open Go.RowKit

theorem wpList_append_k {ops : Array Oper} {rest : List Oper} {o : Oper} {a : Act} {w : World} {Q : Exit → Act → World → Prop} (hgd : o.guard = none) (s x : Operand) (T e : TypeId) (z : Value) (k bytes : Nat)
    (hT : Tryz.prog.underlying T = some (.slice e)) (hinfo : (Tryz.prog.info? e).map (fun i => (i.zero, i.size, i.bytes)) = some (some z, k, bytes)) (hzk : z.cells.size = k) (hk : 0 < k)
    (ho : o.op = .call { callee := .builtin .append, args := #[s, x], argTypes := #[T, T] }) {B : Nat} {v : Value} {n : Nat} {xs : List Value} (hs : a.eval s = v) (hown : w.ownsRow B e k v n xs)
    {q : Nat} {us : List Value} (hx : a.eval x = .slice (some ⟨q, 0, none⟩) 1 1) (hul : us.length = k) (hc : w.rangeAt q 0 us) (hu : ∀ u, u ∈ us → u.oneCell' = true) (hl : n ≤ 1000000) (hb : bytes ≤ 1000) (hB : B ≤ w.heap.size)
    (h : ∀ v' w', w'.ownsRow B e k v' (n + 1) (xs ++ us) → Kept v.ownBlock.toList w w' → (v'.ownBlock = v.ownBlock ∨ v'.ownBlock = some w.heap.size) → wpList Tryz.prog ops Q rest (a.put o.dst v') w') : wpList Tryz.prog ops Q (o :: rest) a w := by
  refine wpList_plain hgd fun K hK => ?_
  have h0 := step_append_k (ops := ops) (K := K) (Q := Q) (E := True) hgd s x T e z k bytes hT hinfo hzk hk ho hs hown hx hul hc hu hl hb hB (fun v' w' a1 a2 a3 => hK _ _ (h v' w' a1 a2 a3))
  rw [if_pos (by simp [Region.wanted, hgd])] at h0
  exact h0
theorem owns_form {w : World} {B : Nat} {e : TypeId} {k : Nat} {v : Value} {n : Nat} {xs : List Value} (h : w.ownsRow B e k v n xs) : ∃ ao cap, v = .slice ao n cap := by
  obtain ⟨_, ⟨rfl, rfl⟩ | ⟨g, cap, _, rfl, _⟩⟩ := h
  · exact ⟨none, 0, rfl⟩
  · exact ⟨_, cap, rfl⟩

/-- A list of links in a block of one's own. -/
def LkOwn (w : World) (B : Nat) (v : Value) (ks : List LinkL) : Prop := w.ownsRow B 52 33 v ks.length (ks.map LinkL.row).flatten
theorem LinkL.row_len {l : LinkL} (h : l.id.length = 32) : l.row.length = 33 := by simp [LinkL.row, h]
theorem LinkL.one (l : LinkL) : ∀ v, v ∈ l.row → v.oneCell' = true := fun v hv => by
  unfold LinkL.row at hv
  rcases List.mem_append.1 hv with h | h
  · exact map_oneCell _ v h
  · rw [List.mem_singleton.1 h]; rfl
theorem LkOwn.nil (w : World) (B : Nat) : LkOwn w B (.slice none 0 0) [] := ⟨rfl, Or.inl ⟨rfl, rfl⟩⟩
theorem LkOwn.push {w : World} {B : Nat} {v : Value} {ks : List LinkL} {k : LinkL} (h : w.ownsRow B 52 33 v (ks.length + 1) ((ks.map LinkL.row).flatten ++ k.row)) : LkOwn w B v (ks ++ [k]) := by
  unfold LkOwn
  rw [List.length_append, List.map_append, List.flatten_append, List.map_singleton, List.flatten_singleton]
  exact h
theorem LkOwn.first {w : World} {B : Nat} (hB : B ≤ w.heap.size) (k : LinkL) (hk : k.id.length = 32) : LkOwn (w.alloc (.cells k.row.toArray 52)) B (.slice (some ⟨w.heap.size, 0, none⟩) 1 1) [k] := by
  refine ⟨by simp [LinkL.row, hk], Or.inr ⟨w.heap.size, 1, k.row.toArray, rfl, hB, heap_alloc_new w _, Nat.le_refl _, by decide, by rw [List.size_toArray, LinkL.row_len hk], ?_⟩⟩
  simp [LinkL.row]
  exact List.take_of_length_le (by simp [hk])
theorem LkOwn.rows {w : World} {B : Nat} {v : Value} {ks : List LinkL} (h : LkOwn w B v ks) (hg : ∀ k, k ∈ ks → k.id.length = 32) (hn : ks.length ≤ 1000000) : RowsAt w v 33 (ks.map LinkL.row) := by
  refine ownsK_rows (by decide) (fun r hr => ?_) (by rw [List.length_map]; exact h) (by rw [List.length_map]; omega)
  obtain ⟨k, hk, rfl⟩ := List.mem_map.1 hr
  exact LinkL.row_len (hg k hk)

/-- What a commit names. -/
def linksC (c : ComL) : List LinkL := LinkL.mk c.tree 2 :: c.parents.map fun p => LinkL.mk p 3

set_option maxRecDepth 100000 in
set_option maxHeartbeats 2000000 in
theorem comChildren_any (c : ComL) (pv : Value) (w : World) (hp : IdsAt w pv c.parents) (hg : c.Good) (hn : c.parents.length ≤ 1000) :
    Calls Tryz.prog 127 #[.agg (c.row pv).toArray] w fun e w' => ∃ v, e = .returned v ∧ LkOwn w' (w.heap.size + 1) v (linksC c) ∧ Kept [] w w' := by
  have HTC : Hid ((w.alloc (.cells (c.row pv).toArray 90)).rangeAt w.heap.size 0 (c.tree.map (Value.int .u8)) ∧ ∀ W, Kept [] (w.alloc (.cells (c.row pv).toArray 90)) W → W.cell? ⟨w.heap.size, 32, none⟩ = some pv) := by
    obtain ⟨a0, a1, _⟩ := com_cells hg.tree.1 (heap_alloc_new w (.cells (c.row pv).toArray 90))
    exact ⟨a0, fun W hW => hW.cell a1 (by simp)⟩
  obtain ⟨a0, a1⟩ := HTC.out
  have hbl := built_link c.tree hg.tree.1 2
  have hsi : (Tryz.prog.info? 29).map (·.size) = some (c.tree.map (Value.int .u8)).length := by rw [List.length_map, hg.tree.1]; exact Tryz.infoID
  have hmid : (c.tree.map (Value.int .u8)).toArray = idC c.tree := rfl
  have hl := hg.tree.1
  have kA : Kept [] w (w.alloc (.cells (c.row pv).toArray 90)) := (Kept.refl _ _).alloc _
  have kB : Kept [] (w.alloc (.cells (c.row pv).toArray 90)) ((w.alloc (.cells (c.row pv).toArray 90)).alloc (.cells (LinkL.mk c.tree 2).row.toArray 52)) := (Kept.refl _ _).alloc _
  have a2 := a1 _ kB
  have HV : Hid (∀ W, Kept [] w W → IdsAt W pv c.parents) := fun W k => hp.keep k (fun _ _ _ => by simp)
  have HG : Hid (∀ o, o ∈ c.parents → GoodID o) := hg.parents
  have HS : Hid (LkOwn ((w.alloc (.cells (c.row pv).toArray 90)).alloc (.cells (LinkL.mk c.tree 2).row.toArray 52)) (w.heap.size + 1) (.slice (some ⟨w.heap.size + 1, 0, none⟩) 1 1) [LinkL.mk c.tree 2]) := by
    have h := LkOwn.first (w := w.alloc (.cells (c.row pv).toArray 90)) (B := w.heap.size + 1) (by simp) (LinkL.mk c.tree 2) hl
    rw [World.size_alloc] at h
    exact h
  have HK0 : Hid (Kept [] w ((w.alloc (.cells (c.row pv).toArray 90)).alloc (.cells (LinkL.mk c.tree 2).row.toArray 52))) := kA.trans kB (by simp)
  have HLC : Hid (linksC c = LinkL.mk c.tree 2 :: c.parents.map fun p => LinkL.mk p 3) := rfl
  generalize linksC c = lks at *
  obtain ⟨ao, cap, rfl, hcap, _, hlen, _⟩ := hp
  have hui := Tryz.underlying29
  clear a1 HTC kA kB hg
  generalize (c.row (.slice ao c.parents.length cap)).toArray = tr at *
  generalize c.parents = ids at *
  go_enter Tryz.func127, Tryz.ntmps127
  go_wp2_with (first
    | (refine wpList_load_mid (by rfl) 29 (.tmp 6) (by rfl) w.heap.size 0 (by rfl) (c.tree.map (Value.int .u8)) _ a0 hui rfl hsi ?_; rw [hmid])
    | (refine wpList_build_some (by rfl) 52 _ (by rfl) (LinkL.mk c.tree 2).row.toArray (by simp; exact hbl) ?_)
    | (refine wpList_build_link1 (by rfl) (.tmp 8) (by rfl) (LinkL.mk c.tree 2) hl (by rfl) ?_))
  go_loopw [3, 5, 13] (fun s3 _ s13 wr => ∃ k : Nat, k ≤ ids.length ∧ s13 = .int .i64 k ∧ Hid (LkOwn wr (w.heap.size + 1) s3 (LinkL.mk c.tree 2 :: (ids.take k).map fun p => LinkL.mk p 3)) ∧ Hid (Kept [] w wr)) (fun _ _ s13 _ => ids.length - (intOf s13).toNat)
  case atStart => exact ⟨0, Nat.zero_le _, rfl, by simpa using HS, HK0⟩
  case round =>
    clear HS HK0 a0 a2 hbl hsi hmid
    obtain ⟨k, hk, rfl, HL, HK⟩ := hrel
    obtain ⟨ao3, cap3, hv3⟩ := owns_form HL.out
    have hln : (LinkL.mk c.tree 2 :: (ids.take k).map fun p => LinkL.mk p 3).length = k + 1 := by simp; omega
    rw [hln] at hv3
    subst hv3
    by_cases hlt : k < ids.length
    · obtain ⟨o, ho⟩ : ∃ o, ids[k]? = some o := ⟨_, List.getElem?_eq_getElem hlt⟩
      have hgo := HG.out o (List.mem_of_getElem? ho)
      obtain ⟨ao', cap', he, _, _, _, hc⟩ := HV.out wr HK.out
      injection he with e1 e2 e3
      subst e1 e3
      obtain ⟨b, off, rfl, hh⟩ := hc (by rintro rfl; simp at hlt)
      have hr := hh k o ho
      have hso : (Tryz.prog.info? 29).map (·.size) = some (o.map (Value.int .u8)).length := by rw [List.length_map, hgo.1]; exact Tryz.infoID
      have hsoc : (Tryz.prog.info? 29).map (·.size) = some (idC o).size := by rw [idC_size hgo.1]; exact Tryz.infoID
      have hao : (idC o).all (·.oneCell') = true := all_oneCell_toArray (map_oneCell _)
      have ho32 : (idC o).size = 32 := idC_size hgo.1
      have hoc : (o.map (Value.int .u8)).toArray = idC o := rfl
      have hbx := range_box wr o 29
      have hbo := built_link o hgo.1 3
      have hlo := hgo.1
      have k1 : Kept [] wr ((wr.alloc (.cells (idC o) 29)).alloc (.cells (LinkL.mk o 3).row.toArray 52)) := ((Kept.refl _ _).alloc _).alloc _
      have rng2 : ((wr.alloc (.cells (idC o) 29)).alloc (.cells (LinkL.mk o 3).row.toArray 52)).rangeAt (wr.heap.size + 1) 0 (LinkL.mk o 3).row := by
        have h := row_range (heap_alloc_new (wr.alloc (.cells (idC o) 29)) (.cells (LinkL.mk o 3).row.toArray 52))
        rw [World.size_alloc] at h
        exact h
      have own2 : ((wr.alloc (.cells (idC o) 29)).alloc (.cells (LinkL.mk o 3).row.toArray 52)).ownsRow (w.heap.size + 1) 52 33 (.slice ao3 (k + 1) cap3) (k + 1) ((LinkL.mk c.tree 2 :: (ids.take k).map fun p => LinkL.mk p 3).map LinkL.row).flatten := by
        have h := HL.out
        unfold LkOwn at h
        rw [hln] at h
        exact ownsK_on h k1 (fun _ _ => by simp)
      have hk6 : k + 1 ≤ 1000000 := by omega
      have hB2 : w.heap.size + 1 ≤ ((wr.alloc (.cells (idC o) 29)).alloc (.cells (LinkL.mk o 3).row.toArray 52)).heap.size := by
        have := HK.out.size
        rw [World.size_alloc, World.size_alloc]
        omega
      have hll : (LinkL.mk o 3).row.length = 33 := LinkL.row_len hlo
      have hone := LinkL.one (LinkL.mk o 3)
      have HN : Hid (∀ v' w', w'.ownsRow (w.heap.size + 1) 52 33 v' (k + 1 + 1) (((LinkL.mk c.tree 2 :: (ids.take k).map fun p => LinkL.mk p 3).map LinkL.row).flatten ++ (LinkL.mk o 3).row) → Kept (Value.slice ao3 (k + 1) cap3).ownBlock.toList ((wr.alloc (.cells (idC o) 29)).alloc (.cells (LinkL.mk o 3).row.toArray 52)) w' → LkOwn w' (w.heap.size + 1) v' (LinkL.mk c.tree 2 :: (ids.take (k + 1)).map fun p => LinkL.mk p 3) ∧ Kept [] w w') := fun v' w' q1 q2 => by
        rw [← hln] at q1
        have h := LkOwn.push q1
        have ho' : ids[k] = o := (List.getElem?_eq_some_iff.1 ho).2
        refine ⟨?_, ?_⟩
        · rw [List.take_succ_eq_append_getElem hlt, List.map_append, ho']
          exact h
        · have lo := fun g hg => (World.ownsRow.lt own2 g hg).1
          refine (HK.out.trans k1 (by simp)).trans q2 fun g hg => Or.inr ?_
          have := lo g (by simpa using hg)
          omega
      clear hh hc ho hgo k1 hln HL
      generalize ((LinkL.mk c.tree 2 :: (ids.take k).map fun p => LinkL.mk p 3).map LinkL.row).flatten = ls at *
      go_wp2_with (first
        | (refine wpList_load_mid (by rfl) 29 (.tmp 15) (by rfl) b (off + k * 32) (by rfl) (o.map (Value.int .u8)) _ hr hui rfl hso ?_; rw [hoc])
        | (refine wpList_store_new (by rfl) 29 (.tmp 5) (.tmp 16) (by rfl) wr _ (idC o) (by rfl) (by rfl) hsoc (by rw [ho32]; rfl) hao ?_)
        | (refine wpList_load_mid (by rfl) 29 (.tmp 5) (by rfl) wr.heap.size 0 (by rfl) (o.map (Value.int .u8)) _ hbx hui rfl hso ?_; rw [hoc])
        | (refine wpList_build_some (by rfl) 52 _ (by rfl) (LinkL.mk o 3).row.toArray (by simp; exact hbo) ?_)
        | (refine wpList_build_link1 (by rfl) (.tmp 19) (by rfl) (LinkL.mk o 3) hlo (by rfl) ?_)
        | (at_builtin; refine wpList_append_k (by rfl) (.tmp 17) (.tmp 20) 47 52 (.agg zeroK.row.toArray) 33 40 Tryz.underlying47 Tryz.zeroLink rfl (by decide) (by rfl) (v := .slice ao3 (k + 1) cap3) (by rfl) own2 (q := wr.heap.size + 1) (us := (LinkL.mk o 3).row) (by simp; rfl) hll rng2 hone hk6 (by decide) hB2 ?_; intro v5 w5 h5 k5 b5
           obtain ⟨ao5, cap5, rfl⟩ := owns_form h5
           obtain ⟨HL5, HK5⟩ := HN.out _ w5 h5 k5
           clear h5 k5 b5))
      go_roundw
      case rel => exact ⟨k + 1, by omega, by go_num, HL5, HK5⟩
      case measure => simp [intOf]; omega
    · obtain rfl : k = ids.length := by omega
      have HR : Hid (LkOwn wr (w.heap.size + 1) (.slice ao3 (ids.length + 1) cap3) lks) := by
        have h := HL.out
        rw [List.take_length] at h
        rw [HLC.out]
        exact h
      clear HL HLC
      go_wp2
      go_ret
      exact ⟨_, rfl, HR.out, HK.out⟩
end Go.Proofs.YtfcoeinhfdbcgaaGreatDoor
