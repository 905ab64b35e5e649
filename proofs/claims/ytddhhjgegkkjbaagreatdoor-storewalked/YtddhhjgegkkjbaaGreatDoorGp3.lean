/-
  WALKS: object.Parse, over what object.read answers.
  WALK: satchellaw3.twin: the same object in memory of its own.
  WALK: satchelref3.Parse, of any bytes.
  PLAIN: bytes are read as an object just if they are the encoding of the object that they would be.
  object.read of any tag's, commit's, tree's bytes, against the document's own.
-/
import Derived.Test.YtddhhjgegkkjbaaGreatDoorPar1
import Derived.Test.YtddhhjgegkkjbaaGreatDoorQuietId
import Derived.Laws.CopyRow
import Derived.Laws.MakeOwn
import Derived.Lib.SlBuf
import Derived.Test.YtddhhjgegkkjbaaGreatDoorHdS
import Derived.Test.YtddhhjgegkkjbaaGreatDoorRt1
import Derived.Test.YtddhhjgegkkjbaaGreatDoorEnt3
import Derived.Deep.CutRange
import Derived.Test.YtddhhjgegkkjbaaGreatDoorRgO
import Derived.Test.YtddhhjgegkkjbaaGreatDoorAppK
import Derived.Test.YtddhhjgegkkjbaaGreatDoorLk0
import Derived.Test.YtddhhjgegkkjbaaGreatDoorEnt2
import Derived.Lib.Bytes
import Derived.Test.YtddhhjgegkkjbaaGreatDoorConv
import Derived.Laws.IdiomStrings
import Derived.Deep.RegionHeld
import Derived.Test.YtddhhjgegkkjbaaGreatDoorReadC
import Derived.Test.YtddhhjgegkkjbaaGreatDoorReadG
namespace Go.Proofs.YtddhhjgegkkjbaaGreatDoor
open Go.RowKit

theorem comO_one (c : ComL) (pv : Value) (hp : pv.oneCell' = true) : (comO c pv).row.toArray.all (·.oneCell') = true := all_oneCell_toArray fun v hv => by
  unfold ObjL.row at hv
  rcases List.mem_append.1 hv with h | h
  · simp [comO, zeroO] at h
    rcases h with rfl | rfl <;> rfl
  · rcases List.mem_append.1 h with h | h
    · exact Array.all_eq_true_iff_forall_mem.1 (com_one c pv hp) v (by rw [List.mem_toArray]; exact h)
    · exact Array.all_eq_true_iff_forall_mem.1 (tag_one zeroG) v (by rw [List.mem_toArray]; exact h)
theorem tagO_one (t : TagL) : (tagO t).row.toArray.all (·.oneCell') = true := all_oneCell_toArray fun v hv => by
  unfold ObjL.row at hv
  rcases List.mem_append.1 hv with h | h
  · simp [tagO, zeroO] at h
    rcases h with rfl | rfl <;> rfl
  · rcases List.mem_append.1 h with h | h
    · exact Array.all_eq_true_iff_forall_mem.1 (com_one zeroC (.slice none 0 0) rfl) v (by rw [List.mem_toArray]; exact h)
    · exact Array.all_eq_true_iff_forall_mem.1 (tag_one t) v (by rw [List.mem_toArray]; exact h)

end Go.Proofs.YtddhhjgegkkjbaaGreatDoor

namespace Go.Proofs.YtddhhjgegkkjbaaGreatDoor
open Go.RowKit

/-- twin between its steps: the object that was handed in, the answer, the copy. -/
structure Tw (w W : World) (ro rp : Array Value) : Prop where
  box : W.heap[w.heap.size]? = some (.cells ro 61 (0, 0))
  res : W.heap[w.heap.size + 1]? = some (.cells Tryz.zeroCells61 61 (0, 0))
  pb : W.heap[w.heap.size + 1 + 1]? = some (.cells rp 61 (0, 0))
  kp : Kept [] w W
  sz : w.heap.size + 3 ≤ W.heap.size
section
variable {w W W' : World} {ro rp : Array Value}
theorem Tw.on (h : Tw w W ro rp) (k : Kept [] W W') : Tw w W' ro rp := ⟨k.heap h.box (by simp), k.heap h.res (by simp), k.heap h.pb (by simp), h.kp.then k, Nat.le_trans h.sz k.size⟩
theorem Tw.c (h : Tw w W ro rp) {i : Nat} {v : Value} (hi : ro[i]? = some v) : W.cell? ⟨w.heap.size, i, none⟩ = some v := by rw [cell_of_row _ _ _ _ _ _ h.box]; exact hi
theorem Tw.d (h : Tw w W ro rp) {i : Nat} {v : Value} (hi : rp[i]? = some v) : W.cell? ⟨w.heap.size + 1 + 1, i, none⟩ = some v := by rw [cell_of_row _ _ _ _ _ _ h.pb]; exact hi
theorem Tw.f (h : Tw w W ro rp) (i : Nat) : W.frozen? ⟨w.heap.size + 1 + 1, i, none⟩ = false := frozen_of_row W _ _ _ _ h.pb
theorem Tw.row (h : Tw w W ro rp) {g : Nat} (hg : w.heap.size + 3 ≤ g) (cs : Array Value) : Tw w (W.setRow g cs) ro rp :=
  ⟨(setRow_other W g _ cs (by omega)).trans h.box, (setRow_other W g _ cs (by omega)).trans h.res, (setRow_other W g _ cs (by omega)).trans h.pb, kept_setRow h.kp (by omega) cs, by rw [show (W.setRow g cs).heap.size = W.heap.size by simp [World.setRow]]; exact h.sz⟩
theorem Tw.put (h : Tw w W ro rp) (i : Nat) (v : Value) : Tw w (W.setCell ⟨w.heap.size + 1 + 1, i, none⟩ v) ro (rp.setIfInBounds i v) := by
  rw [setCell_eq_setRow W _ i rp _ _ v h.pb]
  exact ⟨(setRow_other W _ _ _ (by omega)).trans h.box, (setRow_other W _ _ _ (by omega)).trans h.res, setRow_heap W _ _ _ _ _ h.pb, kept_setRow h.kp (by omega) _, by rw [show (W.setRow (w.heap.size + 1 + 1) (rp.setIfInBounds i v)).heap.size = W.heap.size by simp [World.setRow]]; exact h.sz⟩
end

theorem slice_one {w : World} {v : Value} {ys : List Int} (h : BytesAt w v ys) : v.oneCell' = true := by obtain ⟨ao, cap, rfl, _⟩ := h; rfl
theorem objL_one {w : World} {o : ObjL} (hg : ObjL.Good w o) : o.row.toArray.all (·.oneCell') = true := all_oneCell_toArray fun v hv => by
  obtain ⟨_, _, e2, _⟩ := hg.ev.form
  obtain ⟨_, _, e3, _⟩ := hg.pv
  have e1 := slice_one hg.bv
  have h2 : o.ev.oneCell' = true := by rw [e2]; rfl
  have h3 : o.pv.oneCell' = true := by rw [e3]; rfl
  unfold ObjL.row ComL.row TagL.row at hv
  simp only [List.mem_append, List.mem_cons, List.not_mem_nil, or_false] at hv
  rcases hv with (rfl | rfl | rfl) | (hv | rfl | rfl | rfl | rfl) | (hv | rfl | rfl | rfl | rfl | rfl)
  · rfl
  · exact e1
  · exact h2
  · exact map_oneCell _ v hv
  · exact h3
  · rfl
  · rfl
  · rfl
  · exact map_oneCell _ v hv
  · rfl
  · rfl
  · rfl
  · rfl
  · rfl
end Go.Proofs.YtddhhjgegkkjbaaGreatDoor

namespace Go.Proofs.YtddhhjgegkkjbaaGreatDoor
open Go.RowKit

/-- The object that bytes would be, its lists at these places. -/
def guessO (xs : List Int) (bv ev pv : Value) : ObjL :=
  if xAt xs 0 = 1 then { kindO 1 with bv := bv, blob := xs.drop 1 } else if xAt xs 0 = 2 then { kindO 2 with ev := ev, es := gTree xs }
  else if xAt xs 0 = 3 then { kindO 3 with com := gCom xs, pv := pv } else { kindO 4 with tag := gTag xs }
theorem zero32_good : GoodID zero32 := ⟨rfl, fun u hu => by rw [(List.mem_replicate.1 hu).2]; exact ⟨by decide, by decide⟩⟩
theorem goodT_nil : GoodText [] := ⟨fun u hu => by (cases hu), by decide⟩
theorem zeroC_good : zeroC.Good := ⟨zero32_good, (fun o ho => by cases ho), goodT_nil, by decide, by decide, goodT_nil⟩
theorem zeroG_good : zeroG.Good := ⟨zero32_good, by decide, by decide, goodT_nil, goodT_nil, by decide, by decide, goodT_nil⟩
theorem ents_nil (w : World) : EntsAt w (.slice none 0 0) [] := ⟨none, 0, rfl, Nat.le_refl _, fun _ => rfl, by decide, fun h => absurd rfl h⟩
theorem ids_nil (w : World) : IdsAt w (.slice none 0 0) [] := ⟨none, 0, rfl, Nat.le_refl _, fun _ => rfl, by decide, fun h => absurd rfl h⟩
theorem be8 {l : List Int} (h : Octs l) (hl : l.length = 8) : 0 ≤ be l ∧ be l ≤ 18446744073709551615 := by
  have := be_from l h 0 (by decide)
  rw [hl] at this
  have h2 : be l < (0 + 1) * 256 ^ 8 := this.2
  have h3 : 0 ≤ be l := this.1
  omega
theorem txt_good {xs : List Int} (ho : Octs xs) (hl : xs.length ≤ 65536) (p : Nat) : GoodText (txtG xs p) := ⟨txtG_octs ho p, by rw [txtG_len]; unfold txtN; omega⟩
theorem gTag_good {xs : List Int} (ho : Octs xs) (hl : xs.length ≤ 65536) : (gTag xs).Good := by
  have hk := xAt_oct ho (plus xs 1 32)
  have ht := be8 (takeX_octs ho (txtE xs (txtE xs (plus xs (plus xs 1 32) 1))) 8) (takeX_len _ _ _)
  exact ⟨⟨takeX_len _ _ _, takeX_octs ho _ _⟩, by show -9223372036854775808 ≤ xAt xs (plus xs 1 32); omega, by show xAt xs (plus xs 1 32) ≤ 9223372036854775807; omega, txt_good ho hl _, txt_good ho hl _, ht.1, ht.2, txt_good ho hl _⟩
theorem gPars_good {xs : List Int} (ho : Octs xs) : ∀ n p, ∀ o, o ∈ (gPars xs n p).1 → GoodID o
  | 0, p, o, h => by cases h
  | n + 1, p, o, h => by
    unfold gPars at h
    split at h
    · rcases List.mem_cons.1 h with rfl | h
      · exact ⟨takeX_len _ _ _, takeX_octs ho _ _⟩
      · exact gPars_good ho n _ o h
    · cases h
theorem gCom_good {xs : List Int} (ho : Octs xs) (hl : xs.length ≤ 65536) : (gCom xs).Good := by
  have ht := be8 (takeX_octs ho (txtE xs (gPars xs (numG xs (plus xs 1 32)).1.toNat (plus xs (plus xs 1 32) (numG xs (plus xs 1 32)).2)).2) 8) (takeX_len _ _ _)
  exact ⟨⟨takeX_len _ _ _, takeX_octs ho _ _⟩, gPars_good ho _ _, txt_good ho hl _, ht.1, ht.2, txt_good ho hl _⟩

/-- Is the object that the bytes would be right, and are they its encoding? -/
def nilV : Value := .slice none 0 0
def gOk [TabC] (xs : List Int) : Bool := decide (faultO (guessO xs nilV nilV nilV) = 0) && decide (encO (guessO xs nilV nilV nilV) = xs)
def parErr [TabC] (xs : List Int) : Int := if 65536 < xs.length then 31 else if ¬ (1 ≤ xAt xs 0 ∧ xAt xs 0 ≤ 4) then 30 else if gOk xs = true then 0 else 37
theorem guessO_same [TabC] (xs : List Int) (bv ev pv : Value) : faultO (guessO xs bv ev pv) = faultO (guessO xs nilV nilV nilV) ∧ encO (guessO xs bv ev pv) = encO (guessO xs nilV nilV nilV) := by
  unfold guessO
  split
  · exact ⟨rfl, rfl⟩
  · split
    · exact ⟨rfl, rfl⟩
    · split
      · exact ⟨rfl, rfl⟩
      · exact ⟨rfl, rfl⟩
theorem zeroO_good (w : World) : ObjL.Good w zeroO := ⟨by decide, by decide, BytesAt.nil w, goodT_nil, ents_nil w, (fun e he => by cases he), ids_nil w, zeroC_good, zeroG_good⟩
/-- What a Parse answers. -/
def ParA [TabC] (w : World) (xs : List Int) (e : Ending) (w' : World) : Prop :=
  ∃ o, e = .returned (.tuple #[.agg o.row.toArray, .int .i64 (parErr xs)]) ∧ ObjL.Good w' o ∧ Kept [] w w' ∧ (parErr xs = 0 → ∃ bv ev pv, o = guessO xs bv ev pv) ∧ (parErr xs ≠ 0 → o = zeroO)
theorem built_zero : Tryz.prog.built 61 [] = some zeroO.row.toArray := by rw [Tryz.builtObj, fill_nil]

theorem good_keep {W W' : World} {o : ObjL} {g : Nat} (h : ObjL.Good W o) (k : Kept [g] W W') (hn : ∀ b, (blkOf o.bv = some b ∨ blkOf o.ev = some b ∨ blkOf o.pv = some b) → b ≠ g) : ObjL.Good W' o :=
  ⟨h.lo, h.hi, h.bv.keep k (fun _ b hb e => hn b (Or.inl hb) (by simpa using e)), h.blob, h.ev.keep k (fun _ b hb e => hn b (Or.inr (Or.inl hb)) (by simpa using e)), h.es, h.pv.keep k (fun _ b hb e => hn b (Or.inr (Or.inr hb)) (by simpa using e)), h.com, h.tag⟩
end Go.Proofs.YtddhhjgegkkjbaaGreatDoor

namespace Go.Proofs.YtddhhjgegkkjbaaGreatDoor
open Go.RowKit

/-- A read that has gone so far. -/
def TkOk (xs : List Int) (pl f : Nat) : Prop := f ≤ 4 ∧ pl ≤ xs.length
theorem TkOk.step {xs : List Int} (ho : Octs xs) {pl f : Nat} (h : TkOk xs pl f) (kind size most : Int) (hs : kind = 0 → size ≤ 8) (hm : most ≤ 18446744073709551615) : TkOk xs (takeL xs pl f kind size most).pl (takeL xs pl f kind size most).f := by
  refine ⟨take_f xs ho pl f h.1 kind size most hs hm, ?_⟩
  by_cases h0 : f = 0
  · subst h0
    exact (takeL_frame xs ho pl h.2 kind size most hs hm).2.1
  · unfold takeL
    rw [if_pos h0]
    exact h.2
theorem TkOk.ids {xs : List Int} (ho : Octs xs) {pl f : Nat} (h : TkOk xs pl f) : ∀ k, TkOk xs (rdIs xs pl f k).2.1 (rdIs xs pl f k).2.2
  | 0 => h
  | k + 1 => (TkOk.ids ho h k).step ho 3 32 0 (fun h => absurd h (by decide)) (by decide)
theorem TkOk.ents {xs : List Int} (ho : Octs xs) {pl f : Nat} (h : TkOk xs pl f) : ∀ k, TkOk xs (rdEs xs pl f k).2.1 (rdEs xs pl f k).2.2
  | 0 => h
  | k + 1 => ((((TkOk.ents ho h k).step ho 0 1 0 (fun _ => by decide) (by decide)).step ho 2 0 255 (fun h => absurd h (by decide)) (by decide)).step ho 3 32 0 (fun h => absurd h (by decide)) (by decide))
theorem take_first {xs : List Int} (ho : Octs xs) (hne : xs ≠ []) : takeL xs 0 0 0 1 0 = ⟨xAt xs 0, [], 1, 0⟩ := by
  obtain ⟨x, r, rfl⟩ : ∃ x r, xs = x :: r := by cases xs with | nil => exact absurd rfl hne | cons x r => exact ⟨x, r, rfl⟩
  have hx := ho x (by simp)
  have e : xAt (x :: r) 0 = x := rfl
  rw [e]
  exact back_fixed (x :: r) 0 1 x r hx.1 (by show x < 256 ^ 1; omega) (by rw [fixedB_one x hx.1 hx.2]; rfl)
theorem gok_iff [TabC] (xs : List Int) (o : ObjL) (hk : ∃ bv ev pv, guessO xs bv ev pv = o) : gOk xs = true ↔ faultO o = 0 ∧ encO o = xs := by
  obtain ⟨bv, ev, pv, rfl⟩ := hk
  unfold gOk
  rw [(guessO_same xs bv ev pv).1, (guessO_same xs bv ev pv).2]
  simp
theorem guessO_tag {xs : List Int} (hk : xAt xs 0 = 4) (bv ev pv : Value) : guessO xs bv ev pv = { kindO 4 with tag := gTag xs } := by unfold guessO; rw [if_neg (by omega), if_neg (by omega), if_neg (by omega)]
theorem guessO_com {xs : List Int} (hk : xAt xs 0 = 3) (bv ev pv : Value) : guessO xs bv ev pv = { kindO 3 with com := gCom xs, pv := pv } := by unfold guessO; rw [if_neg (by omega), if_neg (by omega), if_pos hk]
theorem guessO_tree {xs : List Int} (hk : xAt xs 0 = 2) (bv ev pv : Value) : guessO xs bv ev pv = { kindO 2 with ev := ev, es := gTree xs } := by unfold guessO; rw [if_neg (by omega), if_pos hk]
theorem guessO_blob {xs : List Int} (hk : xAt xs 0 = 1) (bv ev pv : Value) : guessO xs bv ev pv = { kindO 1 with bv := bv, blob := xs.drop 1 } := by unfold guessO; rw [if_pos hk]
theorem gok_tag [TabC] {xs : List Int} (hk : xAt xs 0 = 4) : gOk xs = true ↔ faultG (gTag xs) = 0 ∧ encG (gTag xs) = xs := gok_iff xs _ ⟨nilV, nilV, nilV, guessO_tag hk _ _ _⟩
theorem gok_com [TabC] {xs : List Int} (hk : xAt xs 0 = 3) : gOk xs = true ↔ faultC (gCom xs) = 0 ∧ encC (gCom xs) = xs := gok_iff xs _ ⟨nilV, nilV, nilV, guessO_com hk _ _ _⟩
theorem gok_tree [TabC] {xs : List Int} (hk : xAt xs 0 = 2) : gOk xs = true ↔ faultT (gTree xs) = 0 ∧ encT (gTree xs) = xs := gok_iff xs _ ⟨nilV, nilV, nilV, guessO_tree hk _ _ _⟩
theorem gok_blob [TabC] {xs : List Int} (hk : xAt xs 0 = 1) (hne : xs ≠ []) : gOk xs = true := by
  refine (gok_iff xs _ ⟨nilV, nilV, nilV, guessO_blob hk _ _ _⟩).2 ⟨rfl, ?_⟩
  obtain ⟨x, r, rfl⟩ : ∃ x r, xs = x :: r := by cases xs with | nil => exact absurd rfl hne | cons x r => exact ⟨x, r, rfl⟩
  have e : x = 1 := hk
  show fixedB 1 1 ++ r = x :: r
  rw [fixedB_one 1 (by decide) (by decide), e]
  rfl
theorem tag_fit [TabC] {t : TagL} (hg : t.Good) (hf : faultG t = 0) : t.Fit := by
  obtain ⟨a, b, c, d, e⟩ := faultG_zero hf
  exact ⟨hg.target.1, a, b, c, d, hg.t0, hg.t1, e⟩
theorem com_fit [TabC] {c : ComL} (hg : c.Good) (hf : faultC c = 0) : c.Fit := by
  obtain ⟨a, b, d⟩ := faultC_zero hf
  exact ⟨hg.tree.1, fun o ho => (hg.parents o ho).1, a, b, hg.t0, hg.t1, d⟩
theorem ents_fit [TabC] {es : List EntL} (hg : ∀ e, e ∈ es → e.Good) (hf : faultT es = 0) : ∀ e, e ∈ es → e.Fit := fun e he => by
  obtain ⟨_, h⟩ := faultT_zero hf
  exact ⟨(h e he).1, (h e he).2.1, (h e he).2.2, (hg e he).id.1⟩
end Go.Proofs.YtddhhjgegkkjbaaGreatDoor

namespace Go.Proofs.YtddhhjgegkkjbaaGreatDoor
open Go.RowKit

theorem parErr_kind [TabC] {xs : List Int} (h1 : ¬ 65536 < xs.length) (h2 : 1 ≤ xAt xs 0 ∧ xAt xs 0 ≤ 4) : parErr xs = if gOk xs = true then 0 else 37 := by
  unfold parErr
  rw [if_neg h1, if_neg (by simpa using h2)]
/-- What object.read answers. -/
def ReadA [TabC] (w : World) (xs : List Int) (e : Ending) (w' : World) : Prop :=
  Kept [] w w' ∧ (parErr xs ≠ 0 → e = .returned (.tuple #[.nilIface, .int .i64 (parErr xs)])) ∧
    (parErr xs = 0 → ∃ bv ev pv, e = .returned (.tuple #[conV (guessO xs bv ev pv), .int .i64 0]) ∧ ObjL.Good w' (guessO xs bv ev pv) ∧ ∀ b, (blkOf (guessO xs bv ev pv).bv = some b ∨ blkOf (guessO xs bv ev pv).ev = some b ∨ blkOf (guessO xs bv ev pv).pv = some b) → w.heap.size ≤ b)
theorem readA_bad [TabC] {w : World} {xs : List Int} {e : Ending} {w' : World} {n : Int} (hk : Kept [] w w') (hp : parErr xs = n) (hn : n ≠ 0) (he : e = .returned (.tuple #[.nilIface, .int .i64 n])) : ReadA w xs e w' :=
  ⟨hk, fun _ => by rw [hp]; exact he, fun h => absurd (hp.symm.trans h) hn⟩

theorem tag_iff [TabC] {xs : List Int} (ho : Octs xs) (hl : xs.length ≤ 65536) (hk : xAt xs 0 = 4) (hne : xs ≠ []) (y1 y2 y3 y4 y5 y6 : Took) (h1 : y1 = takeL xs 1 0 3 32 0) (h2 : y2 = takeL xs y1.pl y1.f 0 1 0) (h3 : y3 = takeL xs y2.pl y2.f 2 0 255) (h4 : y4 = takeL xs y3.pl y3.f 2 0 255) (h5 : y5 = takeL xs y4.pl y4.f 0 8 0) (h6 : y6 = takeL xs y5.pl y5.f 2 0 4096)
    (tg : TagL) (htg : tg = ⟨idOf y1.text, y2.n, y3.text, y4.text, y5.n, y6.text⟩) : (y6.f = 0 ∧ y6.pl = xs.length ∧ faultG tg = 0 ↔ gOk xs = true) ∧ (gOk xs = true → tg = gTag xs) := by
  have h0 := take_first ho hne
  have fwd : y6.f = 0 ∧ y6.pl = xs.length ∧ faultG tg = 0 → gOk xs = true ∧ tg = gTag xs := fun ⟨a, b, c⟩ => by
    have henc := tag_one_form ho _ y1 y2 y3 y4 y5 y6 rfl (by rw [h0]; exact hk) (by rw [h0]; exact h1) h2 h3 h4 h5 h6 a b
    rw [← htg] at henc
    have b5 := take_lt xs ho y4.pl y4.f 8
    have c5 : 0 ≤ y5.n ∧ y5.n < 18446744073709551616 := by rw [h5]; exact b5
    obtain ⟨f1, f2, f3, f4, f5⟩ := faultG_zero c
    have hfit : tg.Fit := ⟨by rw [htg]; exact idOf_len (by rw [h1]; exact raw32_len _ _ _), f1, f2, f3, f4, by rw [htg]; exact c5.1, by rw [htg]; show y5.n ≤ _; omega, f5⟩
    have hg := gTag_enc tg hfit
    rw [henc] at hg
    exact ⟨(gok_tag hk).2 (by rw [hg]; exact ⟨c, henc⟩), hg.symm⟩
  have bwd : gOk xs = true → y6.f = 0 ∧ y6.pl = xs.length ∧ faultG tg = 0 := fun h => by
    obtain ⟨hf, he⟩ := (gok_tag hk).1 h
    obtain ⟨z1, z2, z3, z4, z5, z6, _, e1, e2, e3, e4, e5, e6, et, ef, ep⟩ := tag_back (gTag xs) (tag_fit (gTag_good ho hl) hf)
    rw [he] at e1 e2 e3 e4 e5 e6 ep
    obtain rfl : y1 = z1 := h1.trans e1.symm
    obtain rfl : y2 = z2 := h2.trans e2.symm
    obtain rfl : y3 = z3 := h3.trans e3.symm
    obtain rfl : y4 = z4 := h4.trans e4.symm
    obtain rfl : y5 = z5 := h5.trans e5.symm
    obtain rfl : y6 = z6 := h6.trans e6.symm
    exact ⟨ef, ep, by rw [htg, ← et]; exact hf⟩
  exact ⟨⟨fun h => (fwd h).1, bwd⟩, fun h => (fwd (bwd h)).2⟩
theorem com_iff [TabC] {xs : List Int} (ho : Octs xs) (hl : xs.length ≤ 65536) (hk : xAt xs 0 = 3) (hne : xs ≠ []) (y1 y2 y3 y4 y5 : Took) (n : Nat) (h1 : y1 = takeL xs 1 0 3 32 0) (h2 : y2 = takeL xs y1.pl y1.f 1 0 8) (hn : y2.n = (n : Int)) (h3 : y3 = takeL xs (rdIs xs y2.pl y2.f n).2.1 (rdIs xs y2.pl y2.f n).2.2 2 0 255) (h4 : y4 = takeL xs y3.pl y3.f 0 8 0) (h5 : y5 = takeL xs y4.pl y4.f 2 0 4096)
    (cm : ComL) (hcm : cm = ⟨idOf y1.text, (rdIs xs y2.pl y2.f n).1, y3.text, y4.n, y5.text⟩) : (y5.f = 0 ∧ y5.pl = xs.length ∧ faultC cm = 0 ↔ gOk xs = true) ∧ (gOk xs = true → cm = gCom xs) := by
  have h0 := take_first ho hne
  have fwd : y5.f = 0 ∧ y5.pl = xs.length ∧ faultC cm = 0 → gOk xs = true ∧ cm = gCom xs := fun ⟨a, b, c⟩ => by
    have henc := com_one_form ho _ y1 y2 y3 y4 y5 n rfl (by rw [h0]; exact hk) (by rw [h0]; exact h1) h2 hn h3 h4 h5 a b
    rw [← hcm] at henc
    have b5 := take_lt xs ho y3.pl y3.f 8
    have c5 : 0 ≤ y4.n ∧ y4.n < 18446744073709551616 := by rw [h4]; exact b5
    obtain ⟨f1, f2, f3⟩ := faultC_zero c
    have hfit : cm.Fit := ⟨by rw [hcm]; exact idOf_len (by rw [h1]; exact raw32_len _ _ _), fun o hoo => (rdIs_good xs ho _ _ n o (by rw [hcm] at hoo; exact hoo)).1, f1, f2, by rw [hcm]; exact c5.1, by rw [hcm]; show y4.n ≤ _; omega, f3⟩
    have hg := gCom_enc cm hfit
    rw [henc] at hg
    exact ⟨(gok_com hk).2 (by rw [hg]; exact ⟨c, henc⟩), hg.symm⟩
  have bwd : gOk xs = true → y5.f = 0 ∧ y5.pl = xs.length ∧ faultC cm = 0 := fun h => by
    obtain ⟨hf, he⟩ := (gok_com hk).1 h
    obtain ⟨z1, z2, z3, z4, z5, p, _, e1, e2, en, er, e3, e4, e5, et, ef, ep⟩ := com_back (gCom xs) (com_fit (gCom_good ho hl) hf)
    rw [he] at e1 e2 er e3 e4 e5 ep
    obtain rfl : y1 = z1 := h1.trans e1.symm
    obtain rfl : y2 = z2 := h2.trans e2.symm
    have hnn : n = (gCom xs).parents.length := by rw [hn] at en; omega
    rw [← hnn] at er
    rw [er] at h3 hcm
    obtain rfl : y3 = z3 := h3.trans e3.symm
    obtain rfl : y4 = z4 := h4.trans e4.symm
    obtain rfl : y5 = z5 := h5.trans e5.symm
    exact ⟨ef, ep, by rw [hcm, ← et]; exact hf⟩
  exact ⟨⟨fun h => (fwd h).1, bwd⟩, fun h => (fwd (bwd h)).2⟩
theorem tree_iff [TabC] {xs : List Int} (ho : Octs xs) (hl : xs.length ≤ 65536) (hk : xAt xs 0 = 2) (hne : xs ≠ []) (hgd : ∀ e, e ∈ gTree xs → e.Good) (y1 : Took) (n : Nat) (h1 : y1 = takeL xs 1 0 1 0 1024) (hn : y1.n = (n : Int)) :
    ((rdEs xs y1.pl y1.f n).2.2 = 0 ∧ (rdEs xs y1.pl y1.f n).2.1 = xs.length ∧ faultT (rdEs xs y1.pl y1.f n).1 = 0 ↔ gOk xs = true) ∧ (gOk xs = true → (rdEs xs y1.pl y1.f n).1 = gTree xs) := by
  have h0 := take_first ho hne
  have fwd : (rdEs xs y1.pl y1.f n).2.2 = 0 ∧ (rdEs xs y1.pl y1.f n).2.1 = xs.length ∧ faultT (rdEs xs y1.pl y1.f n).1 = 0 → gOk xs = true ∧ (rdEs xs y1.pl y1.f n).1 = gTree xs := fun ⟨a, b, c⟩ => by
    have henc := tree_one_form ho _ y1 n rfl (by rw [h0]; exact hk) (by rw [h0]; exact h1) hn a b
    obtain ⟨f1, f2⟩ := faultT_zero c
    have hg := gTree_enc _ f1 (ents_fit (rdEs_good xs ho hl _ _ n) c)
    rw [henc] at hg
    exact ⟨(gok_tree hk).2 (by rw [hg]; exact ⟨c, henc⟩), hg.symm⟩
  have bwd : gOk xs = true → (rdEs xs y1.pl y1.f n).2.2 = 0 ∧ (rdEs xs y1.pl y1.f n).2.1 = xs.length ∧ faultT (rdEs xs y1.pl y1.f n).1 = 0 := fun h => by
    obtain ⟨hf, he⟩ := (gok_tree hk).1 h
    obtain ⟨_, e1, e2⟩ := tree_back (gTree xs) (faultT_zero hf).1 (ents_fit hgd hf)
    rw [he] at e1 e2
    have hy : y1 = ⟨(gTree xs).length, [], 1 + (varB (gTree xs).length).length, 0⟩ := h1.trans e1
    have hnn : n = (gTree xs).length := by rw [hy] at hn; have : ((gTree xs).length : Int) = (n : Int) := hn; omega
    have e3 : rdEs xs y1.pl y1.f n = (gTree xs, xs.length, 0) := by rw [hy, hnn]; exact e2
    rw [e3]
    exact ⟨rfl, rfl, hf⟩
  exact ⟨⟨fun h => (fwd h).1, bwd⟩, fun h => (fwd (bwd h)).2⟩
theorem gEnts_good {xs : List Int} (ho : Octs xs) (hl : xs.length ≤ 65536) : ∀ n p, ∀ e, e ∈ (gEnts xs n p).1 → e.Good
  | 0, p, o, h => by cases h
  | n + 1, p, o, h => by
    unfold gEnts at h
    split at h
    · rcases List.mem_cons.1 h with rfl | h
      · have hx := xAt_oct ho p
        exact ⟨by show -9223372036854775808 ≤ xAt xs p; omega, by show xAt xs p ≤ 9223372036854775807; omega, txt_good ho hl _, ⟨takeX_len _ _ _, takeX_octs ho _ _⟩⟩
      · exact gEnts_good ho hl n _ o h
    · cases h

theorem readTagA [TabC] (v : Value) (xs : List Int) (w : World) (hv : BytesAt w v xs) (ho : Octs xs) (hl : xs.length ≤ 65536) (hT : Tabs w) (hk : xAt xs 0 = 4) (hne : xs ≠ []) : Calls Tryz.prog 34 #[v] w (ReadA w xs) := by
  have h0 := take_first ho hne
  have k1 : TkOk xs 1 0 := ⟨Nat.zero_le _, List.length_pos_iff.2 hne⟩
  have k2 := k1.step ho 3 32 0 (fun h => absurd h (by decide)) (by decide)
  have k3 := k2.step ho 0 1 0 (fun _ => by decide) (by decide)
  have k4 := k3.step ho 2 0 255 (fun h => absurd h (by decide)) (by decide)
  have k5 := k4.step ho 2 0 255 (fun h => absurd h (by decide)) (by decide)
  have k6 := k5.step ho 0 8 0 (fun _ => by decide) (by decide)
  have k7 := k6.step ho 2 0 4096 (fun h => absurd h (by decide)) (by decide)
  obtain ⟨hi, ht⟩ := tag_iff ho hl hk hne _ _ _ _ _ _ rfl rfl rfl rfl rfl rfl _ rfl
  have hp := parErr_kind (xs := xs) (by omega) (by omega)
  refine (readTag v xs w hv ho hl hT ⟨4, [], 1, 0⟩ (by show _ = _; rw [h0, hk]) rfl _ _ _ _ _ _ rfl rfl rfl rfl rfl rfl _ rfl k7.1 k7.2).mono ?_
  rintro e w' ⟨hkp, hA, hB⟩
  by_cases hg : gOk xs = true
  · rw [if_pos hg] at hp
    have hr := hA (hi.2 hg)
    rw [ht hg] at hr
    refine ⟨hkp, fun h => absurd hp h, fun _ => ⟨nilV, nilV, nilV, ?_, ?_, fun b hb => ?_⟩⟩
    · rw [guessO_tag hk]; exact hr
    · rw [guessO_tag hk]
      exact ⟨(by decide : (-9223372036854775808 : Int) ≤ 4), (by decide : (4 : Int) ≤ 9223372036854775807), BytesAt.nil w', goodT_nil, ents_nil w', (fun e he => by cases he), ids_nil w', zeroC_good, gTag_good ho hl⟩
    · rw [guessO_tag hk] at hb
      rcases hb with h | h | h
      · cases h
      · cases h
      · cases h
  · rw [if_neg hg] at hp
    exact readA_bad hkp hp (by decide) (hB (fun h => hg (hi.1 h)))
theorem readComA [TabC] (v : Value) (xs : List Int) (w : World) (hv : BytesAt w v xs) (ho : Octs xs) (hl : xs.length ≤ 65536) (hT : Tabs w) (hk : xAt xs 0 = 3) (hne : xs ≠ []) : Calls Tryz.prog 34 #[v] w (ReadA w xs) := by
  have h0 := take_first ho hne
  have k1 : TkOk xs 1 0 := ⟨Nat.zero_le _, List.length_pos_iff.2 hne⟩
  have k2 := k1.step ho 3 32 0 (fun h => absurd h (by decide)) (by decide)
  have k3 := k2.step ho 1 0 8 (fun h => absurd h (by decide)) (by decide)
  have hnb := take_var_le xs ho (takeL xs 1 0 3 32 0).pl (takeL xs 1 0 3 32 0).f 8 (by decide)
  obtain ⟨n, hn⟩ : ∃ n : Nat, (takeL xs (takeL xs 1 0 3 32 0).pl (takeL xs 1 0 3 32 0).f 1 0 8).n = (n : Int) := ⟨(takeL xs (takeL xs 1 0 3 32 0).pl (takeL xs 1 0 3 32 0).f 1 0 8).n.toNat, by omega⟩
  have k4 := k3.ids ho n
  have k5 := k4.step ho 2 0 255 (fun h => absurd h (by decide)) (by decide)
  have k6 := k5.step ho 0 8 0 (fun _ => by decide) (by decide)
  have k7 := k6.step ho 2 0 4096 (fun h => absurd h (by decide)) (by decide)
  obtain ⟨hi, ht⟩ := com_iff ho hl hk hne _ _ _ _ _ n rfl rfl hn rfl rfl rfl _ rfl
  have hp := parErr_kind (xs := xs) (by omega) (by omega)
  refine (readCom v xs w hv ho hl hT ⟨3, [], 1, 0⟩ (by show _ = _; rw [h0, hk]) rfl _ _ _ _ _ n _ _ _ rfl rfl hn (show _ = _ from rfl) rfl rfl rfl _ rfl k7.1 k7.2).mono ?_
  rintro e w' ⟨hkp, hA, hB⟩
  by_cases hg : gOk xs = true
  · rw [if_pos hg] at hp
    obtain ⟨b, he, hrow, hb⟩ := hA (hi.2 hg)
    have hcm := ht hg
    have hps : (rdIs xs (takeL xs (takeL xs 1 0 3 32 0).pl (takeL xs 1 0 3 32 0).f 1 0 8).pl (takeL xs (takeL xs 1 0 3 32 0).pl (takeL xs 1 0 3 32 0).f 1 0 8).f n).1 = (gCom xs).parents := by rw [← hcm]
    have hnl : n = (gCom xs).parents.length := by rw [← hps, rdIs_len]
    rw [hcm, hnl] at he
    rw [hps] at hrow
    have hids : IdsAt w' (.slice (some ⟨b, 0, none⟩) (gCom xs).parents.length (gCom xs).parents.length) (gCom xs).parents := IdsAt.of_rows hrow (gCom_good ho hl).parents (by rw [← hnl]; omega)
    refine ⟨hkp, fun h => absurd hp h, fun _ => ⟨nilV, nilV, .slice (some ⟨b, 0, none⟩) (gCom xs).parents.length (gCom xs).parents.length, ?_, ?_, fun b' hb' => ?_⟩⟩
    · rw [guessO_com hk]; exact he
    · rw [guessO_com hk]
      exact ⟨(by decide : (-9223372036854775808 : Int) ≤ 3), (by decide : (3 : Int) ≤ 9223372036854775807), BytesAt.nil w', goodT_nil, ents_nil w', (fun e he => by cases he), hids, gCom_good ho hl, zeroG_good⟩
    · rw [guessO_com hk] at hb'
      rcases hb' with h | h | h
      · cases h
      · cases h
      · have e : b = b' := by simpa [blkOf] using h
        omega
  · rw [if_neg hg] at hp
    exact readA_bad hkp hp (by decide) (hB (fun h => hg (hi.1 h)))
theorem readTreeA [TabC] (v : Value) (xs : List Int) (w : World) (hv : BytesAt w v xs) (ho : Octs xs) (hl : xs.length ≤ 65536) (hT : Tabs w) (hk : xAt xs 0 = 2) (hne : xs ≠ []) : Calls Tryz.prog 34 #[v] w (ReadA w xs) := by
  have h0 := take_first ho hne
  have k1 : TkOk xs 1 0 := ⟨Nat.zero_le _, List.length_pos_iff.2 hne⟩
  have k2 := k1.step ho 1 0 1024 (fun h => absurd h (by decide)) (by decide)
  have hnb := take_var_le xs ho 1 0 1024 (by decide)
  obtain ⟨n, hn⟩ : ∃ n : Nat, (takeL xs 1 0 1 0 1024).n = (n : Int) := ⟨(takeL xs 1 0 1 0 1024).n.toNat, by omega⟩
  have k4 := k2.ents ho n
  have hgd : ∀ e, e ∈ gTree xs → e.Good := gEnts_good ho hl _ _
  obtain ⟨hi, ht⟩ := tree_iff ho hl hk hne hgd _ n rfl hn
  have hp := parErr_kind (xs := xs) (by omega) (by omega)
  refine (readTree v xs w hv ho hl hT ⟨2, [], 1, 0⟩ (by show _ = _; rw [h0, hk]) rfl _ rfl n (by show _ = _; rw [hn]; rfl) _ _ _ (show _ = _ from rfl) k4.1 k4.2).mono ?_
  rintro e w' ⟨hkp, hA, hB⟩
  by_cases hg : gOk xs = true
  · rw [if_pos hg] at hp
    obtain ⟨b, he, hrow, hb⟩ := hA (hi.2 hg)
    have hes := ht hg
    have hnl : n = (gTree xs).length := by rw [← hes, rdEs_len]
    rw [hnl] at he
    rw [hes] at hrow
    have hents : EntsAt w' (.slice (some ⟨b, 0, none⟩) (gTree xs).length (gTree xs).length) (gTree xs) := EntsAt.of_rows hrow hgd (by rw [← hnl]; omega)
    refine ⟨hkp, fun h => absurd hp h, fun _ => ⟨nilV, .slice (some ⟨b, 0, none⟩) (gTree xs).length (gTree xs).length, nilV, ?_, ?_, fun b' hb' => ?_⟩⟩
    · rw [guessO_tree hk]; exact he
    · rw [guessO_tree hk]
      exact ⟨(by decide : (-9223372036854775808 : Int) ≤ 2), (by decide : (2 : Int) ≤ 9223372036854775807), BytesAt.nil w', goodT_nil, hents, hgd, ids_nil w', zeroC_good, zeroG_good⟩
    · rw [guessO_tree hk] at hb'
      rcases hb' with h | h | h
      · cases h
      · have e : b = b' := by simpa [blkOf] using h
        omega
      · cases h
  · rw [if_neg hg] at hp
    exact readA_bad hkp hp (by decide) (hB (fun h => hg (hi.1 h)))
end Go.Proofs.YtddhhjgegkkjbaaGreatDoor
