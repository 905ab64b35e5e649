/-
  WALKS: object.Parse, over what object.read answers.
  WALK: satchellaw3.twin: the same object in memory of its own.
  WALK: satchelref3.Parse, of any bytes.
  PLAIN: bytes are read as an object just if they are the encoding of the object that they would be.
-/
import Derived.Test.YtddhhjgegkkjbaaGreatDoorPar1
import Derived.Test.YtddhhjgegkkjbaaGreatDoorRw0
import Derived.Laws.CopyRow
import Derived.Laws.MakeOwn
import Derived.Lib.SlBuf
import Derived.Test.YtddhhjgegkkjbaaGreatDoorHdS
import Derived.Test.YtddhhjgegkkjbaaGreatDoorRt1
import Derived.Test.YtddhhjgegkkjbaaGreatDoorEnt3
import Derived.Deep.CutRange
import Derived.Test.YtddhhjgegkkjbaaGreatDoorSg2
import Derived.Test.YtddhhjgegkkjbaaGreatDoorAppK
import Derived.Test.YtddhhjgegkkjbaaGreatDoorLk0
import Derived.Test.YtddhhjgegkkjbaaGreatDoorEnt2
import Derived.Lib.Bytes
import Derived.Test.YtddhhjgegkkjbaaGreatDoorIdEq
import Derived.Laws.IdiomStrings
import Derived.Deep.RegionHeld
import Derived.Test.YtddhhjgegkkjbaaGreatDoorReadC
namespace Go.Proofs.YtddhhjgegkkjbaaGreatDoor
open Go.RowKit

theorem comO_one (c : ComL) (pv : Value) (hp : pv.oneCell' = true) : (comO c pv).row.toArray.all (·.oneCell') = true := all_oneCell_toArray fun v hv => by
  unfold ObjL.row at hv
  rcases List.mem_append.1 hv with h | h
  · simp [comO, zeroO] at h
    rcases h with rfl | rfl <;> rfl
  · rcases List.mem_append.1 h with h | h
    · exact Array.all_eq_true_iff_forall_mem.1 (com_one c pv hp) v (by rw [List.mem_toArray]; exact h)
    · exact Array.all_eq_true_iff_forall_mem.1 (tag_one zeroG) v (by rw [List.mem_toArray]; exact h)
theorem tagO_one (t : TagL) : (tagO t).row.toArray.all (·.oneCell') = true := all_oneCell_toArray fun v hv => by
  unfold ObjL.row at hv
  rcases List.mem_append.1 hv with h | h
  · simp [tagO, zeroO] at h
    rcases h with rfl | rfl <;> rfl
  · rcases List.mem_append.1 h with h | h
    · exact Array.all_eq_true_iff_forall_mem.1 (com_one zeroC (.slice none 0 0) rfl) v (by rw [List.mem_toArray]; exact h)
    · exact Array.all_eq_true_iff_forall_mem.1 (tag_one t) v (by rw [List.mem_toArray]; exact h)

end Go.Proofs.YtddhhjgegkkjbaaGreatDoor

namespace Go.Proofs.YtddhhjgegkkjbaaGreatDoor
open Go.RowKit

/-- twin between its steps: the object that was handed in, the answer, the copy. -/
structure Tw (w W : World) (ro rp : Array Value) : Prop where
  box : W.heap[w.heap.size]? = some (.cells ro 61 (0, 0))
  res : W.heap[w.heap.size + 1]? = some (.cells Tryz.zeroCells61 61 (0, 0))
  pb : W.heap[w.heap.size + 1 + 1]? = some (.cells rp 61 (0, 0))
  kp : Kept [] w W
  sz : w.heap.size + 3 ≤ W.heap.size
section
variable {w W W' : World} {ro rp : Array Value}
theorem Tw.on (h : Tw w W ro rp) (k : Kept [] W W') : Tw w W' ro rp := ⟨k.heap h.box (by simp), k.heap h.res (by simp), k.heap h.pb (by simp), h.kp.then k, Nat.le_trans h.sz k.size⟩
theorem Tw.c (h : Tw w W ro rp) {i : Nat} {v : Value} (hi : ro[i]? = some v) : W.cell? ⟨w.heap.size, i, none⟩ = some v := by rw [cell_of_row _ _ _ _ _ _ h.box]; exact hi
theorem Tw.d (h : Tw w W ro rp) {i : Nat} {v : Value} (hi : rp[i]? = some v) : W.cell? ⟨w.heap.size + 1 + 1, i, none⟩ = some v := by rw [cell_of_row _ _ _ _ _ _ h.pb]; exact hi
theorem Tw.f (h : Tw w W ro rp) (i : Nat) : W.frozen? ⟨w.heap.size + 1 + 1, i, none⟩ = false := frozen_of_row W _ _ _ _ h.pb
theorem Tw.row (h : Tw w W ro rp) {g : Nat} (hg : w.heap.size + 3 ≤ g) (cs : Array Value) : Tw w (W.setRow g cs) ro rp :=
  ⟨(setRow_other W g _ cs (by omega)).trans h.box, (setRow_other W g _ cs (by omega)).trans h.res, (setRow_other W g _ cs (by omega)).trans h.pb, kept_setRow h.kp (by omega) cs, by rw [show (W.setRow g cs).heap.size = W.heap.size by simp [World.setRow]]; exact h.sz⟩
theorem Tw.put (h : Tw w W ro rp) (i : Nat) (v : Value) : Tw w (W.setCell ⟨w.heap.size + 1 + 1, i, none⟩ v) ro (rp.setIfInBounds i v) := by
  rw [setCell_eq_setRow W _ i rp _ _ v h.pb]
  exact ⟨(setRow_other W _ _ _ (by omega)).trans h.box, (setRow_other W _ _ _ (by omega)).trans h.res, setRow_heap W _ _ _ _ _ h.pb, kept_setRow h.kp (by omega) _, by rw [show (W.setRow (w.heap.size + 1 + 1) (rp.setIfInBounds i v)).heap.size = W.heap.size by simp [World.setRow]]; exact h.sz⟩
end

theorem slice_one {w : World} {v : Value} {ys : List Int} (h : BytesAt w v ys) : v.oneCell' = true := by obtain ⟨ao, cap, rfl, _⟩ := h; rfl
theorem objL_one {w : World} {o : ObjL} (hg : ObjL.Good w o) : o.row.toArray.all (·.oneCell') = true := all_oneCell_toArray fun v hv => by
  obtain ⟨_, _, e2, _⟩ := hg.ev.form
  obtain ⟨_, _, e3, _⟩ := hg.pv
  have e1 := slice_one hg.bv
  have h2 : o.ev.oneCell' = true := by rw [e2]; rfl
  have h3 : o.pv.oneCell' = true := by rw [e3]; rfl
  unfold ObjL.row ComL.row TagL.row at hv
  simp only [List.mem_append, List.mem_cons, List.not_mem_nil, or_false] at hv
  rcases hv with (rfl | rfl | rfl) | (hv | rfl | rfl | rfl | rfl) | (hv | rfl | rfl | rfl | rfl | rfl)
  · rfl
  · exact e1
  · exact h2
  · exact map_oneCell _ v hv
  · exact h3
  · rfl
  · rfl
  · rfl
  · exact map_oneCell _ v hv
  · rfl
  · rfl
  · rfl
  · rfl
  · rfl
end Go.Proofs.YtddhhjgegkkjbaaGreatDoor

namespace Go.Proofs.YtddhhjgegkkjbaaGreatDoor
open Go.RowKit

/-- The object that bytes would be, its lists at these places. -/
def guessO (xs : List Int) (bv ev pv : Value) : ObjL :=
  if xAt xs 0 = 1 then { kindO 1 with bv := bv, blob := xs.drop 1 } else if xAt xs 0 = 2 then { kindO 2 with ev := ev, es := gTree xs }
  else if xAt xs 0 = 3 then { kindO 3 with com := gCom xs, pv := pv } else { kindO 4 with tag := gTag xs }
theorem zero32_good : GoodID zero32 := ⟨rfl, fun u hu => by rw [(List.mem_replicate.1 hu).2]; exact ⟨by decide, by decide⟩⟩
theorem goodT_nil : GoodText [] := ⟨fun u hu => by (cases hu), by decide⟩
theorem zeroC_good : zeroC.Good := ⟨zero32_good, (fun o ho => by cases ho), goodT_nil, by decide, by decide, goodT_nil⟩
theorem zeroG_good : zeroG.Good := ⟨zero32_good, by decide, by decide, goodT_nil, goodT_nil, by decide, by decide, goodT_nil⟩
theorem ents_nil (w : World) : EntsAt w (.slice none 0 0) [] := ⟨none, 0, rfl, Nat.le_refl _, fun _ => rfl, by decide, fun h => absurd rfl h⟩
theorem ids_nil (w : World) : IdsAt w (.slice none 0 0) [] := ⟨none, 0, rfl, Nat.le_refl _, fun _ => rfl, by decide, fun h => absurd rfl h⟩
theorem be8 {l : List Int} (h : Octs l) (hl : l.length = 8) : 0 ≤ be l ∧ be l ≤ 18446744073709551615 := by
  have := be_from l h 0 (by decide)
  rw [hl] at this
  have h2 : be l < (0 + 1) * 256 ^ 8 := this.2
  have h3 : 0 ≤ be l := this.1
  omega
theorem txt_good {xs : List Int} (ho : Octs xs) (hl : xs.length ≤ 65536) (p : Nat) : GoodText (txtG xs p) := ⟨txtG_octs ho p, by rw [txtG_len]; unfold txtN; omega⟩
theorem gTag_good {xs : List Int} (ho : Octs xs) (hl : xs.length ≤ 65536) : (gTag xs).Good := by
  have hk := xAt_oct ho (plus xs 1 32)
  have ht := be8 (takeX_octs ho (txtE xs (txtE xs (plus xs (plus xs 1 32) 1))) 8) (takeX_len _ _ _)
  exact ⟨⟨takeX_len _ _ _, takeX_octs ho _ _⟩, by show -9223372036854775808 ≤ xAt xs (plus xs 1 32); omega, by show xAt xs (plus xs 1 32) ≤ 9223372036854775807; omega, txt_good ho hl _, txt_good ho hl _, ht.1, ht.2, txt_good ho hl _⟩
theorem gPars_good {xs : List Int} (ho : Octs xs) : ∀ n p, ∀ o, o ∈ (gPars xs n p).1 → GoodID o
  | 0, p, o, h => by cases h
  | n + 1, p, o, h => by
    unfold gPars at h
    split at h
    · rcases List.mem_cons.1 h with rfl | h
      · exact ⟨takeX_len _ _ _, takeX_octs ho _ _⟩
      · exact gPars_good ho n _ o h
    · cases h
theorem gCom_good {xs : List Int} (ho : Octs xs) (hl : xs.length ≤ 65536) : (gCom xs).Good := by
  have ht := be8 (takeX_octs ho (txtE xs (gPars xs (numG xs (plus xs 1 32)).1.toNat (plus xs (plus xs 1 32) (numG xs (plus xs 1 32)).2)).2) 8) (takeX_len _ _ _)
  exact ⟨⟨takeX_len _ _ _, takeX_octs ho _ _⟩, gPars_good ho _ _, txt_good ho hl _, ht.1, ht.2, txt_good ho hl _⟩

/-- Is the object that the bytes would be right, and are they its encoding? -/
def nilV : Value := .slice none 0 0
def gOk [TabC] (xs : List Int) : Bool := decide (faultO (guessO xs nilV nilV nilV) = 0) && decide (encO (guessO xs nilV nilV nilV) = xs)
def parErr [TabC] (xs : List Int) : Int := if 65536 < xs.length then 31 else if ¬ (1 ≤ xAt xs 0 ∧ xAt xs 0 ≤ 4) then 30 else if gOk xs = true then 0 else 37
theorem guessO_same [TabC] (xs : List Int) (bv ev pv : Value) : faultO (guessO xs bv ev pv) = faultO (guessO xs nilV nilV nilV) ∧ encO (guessO xs bv ev pv) = encO (guessO xs nilV nilV nilV) := by
  unfold guessO
  split
  · exact ⟨rfl, rfl⟩
  · split
    · exact ⟨rfl, rfl⟩
    · split
      · exact ⟨rfl, rfl⟩
      · exact ⟨rfl, rfl⟩
theorem zeroO_good (w : World) : ObjL.Good w zeroO := ⟨by decide, by decide, BytesAt.nil w, goodT_nil, ents_nil w, (fun e he => by cases he), ids_nil w, zeroC_good, zeroG_good⟩
/-- What a Parse answers. -/
def ParA [TabC] (w : World) (xs : List Int) (e : Ending) (w' : World) : Prop :=
  ∃ o, e = .returned (.tuple #[.agg o.row.toArray, .int .i64 (parErr xs)]) ∧ ObjL.Good w' o ∧ Kept [] w w' ∧ (parErr xs = 0 → ∃ bv ev pv, o = guessO xs bv ev pv) ∧ (parErr xs ≠ 0 → o = zeroO)
theorem built_zero : Tryz.prog.built 61 [] = some zeroO.row.toArray := by rw [Tryz.builtObj, fill_nil]

theorem good_keep {W W' : World} {o : ObjL} {g : Nat} (h : ObjL.Good W o) (k : Kept [g] W W') (hn : ∀ b, (blkOf o.bv = some b ∨ blkOf o.ev = some b ∨ blkOf o.pv = some b) → b ≠ g) : ObjL.Good W' o :=
  ⟨h.lo, h.hi, h.bv.keep k (fun _ b hb e => hn b (Or.inl hb) (by simpa using e)), h.blob, h.ev.keep k (fun _ b hb e => hn b (Or.inr (Or.inl hb)) (by simpa using e)), h.es, h.pv.keep k (fun _ b hb e => hn b (Or.inr (Or.inr hb)) (by simpa using e)), h.com, h.tag⟩
end Go.Proofs.YtddhhjgegkkjbaaGreatDoor

namespace Go.Proofs.YtddhhjgegkkjbaaGreatDoor
open Go.RowKit

/-- A read that has gone so far. -/
def TkOk (xs : List Int) (pl f : Nat) : Prop := f ≤ 4 ∧ pl ≤ xs.length
theorem TkOk.step {xs : List Int} (ho : Octs xs) {pl f : Nat} (h : TkOk xs pl f) (kind size most : Int) (hs : kind = 0 → size ≤ 8) (hm : most ≤ 18446744073709551615) : TkOk xs (takeL xs pl f kind size most).pl (takeL xs pl f kind size most).f := by
  refine ⟨take_f xs ho pl f h.1 kind size most hs hm, ?_⟩
  by_cases h0 : f = 0
  · subst h0
    exact (takeL_frame xs ho pl h.2 kind size most hs hm).2.1
  · unfold takeL
    rw [if_pos h0]
    exact h.2
theorem TkOk.ids {xs : List Int} (ho : Octs xs) {pl f : Nat} (h : TkOk xs pl f) : ∀ k, TkOk xs (rdIs xs pl f k).2.1 (rdIs xs pl f k).2.2
  | 0 => h
  | k + 1 => (TkOk.ids ho h k).step ho 3 32 0 (fun h => absurd h (by decide)) (by decide)
theorem TkOk.ents {xs : List Int} (ho : Octs xs) {pl f : Nat} (h : TkOk xs pl f) : ∀ k, TkOk xs (rdEs xs pl f k).2.1 (rdEs xs pl f k).2.2
  | 0 => h
  | k + 1 => ((((TkOk.ents ho h k).step ho 0 1 0 (fun _ => by decide) (by decide)).step ho 2 0 255 (fun h => absurd h (by decide)) (by decide)).step ho 3 32 0 (fun h => absurd h (by decide)) (by decide))
theorem take_first {xs : List Int} (ho : Octs xs) (hne : xs ≠ []) : takeL xs 0 0 0 1 0 = ⟨xAt xs 0, [], 1, 0⟩ := by
  obtain ⟨x, r, rfl⟩ : ∃ x r, xs = x :: r := by cases xs with | nil => exact absurd rfl hne | cons x r => exact ⟨x, r, rfl⟩
  have hx := ho x (by simp)
  have e : xAt (x :: r) 0 = x := rfl
  rw [e]
  exact back_fixed (x :: r) 0 1 x r hx.1 (by show x < 256 ^ 1; omega) (by rw [fixedB_one x hx.1 hx.2]; rfl)
theorem gok_iff [TabC] (xs : List Int) (o : ObjL) (hk : ∃ bv ev pv, guessO xs bv ev pv = o) : gOk xs = true ↔ faultO o = 0 ∧ encO o = xs := by
  obtain ⟨bv, ev, pv, rfl⟩ := hk
  unfold gOk
  rw [(guessO_same xs bv ev pv).1, (guessO_same xs bv ev pv).2]
  simp
theorem guessO_tag {xs : List Int} (hk : xAt xs 0 = 4) (bv ev pv : Value) : guessO xs bv ev pv = { kindO 4 with tag := gTag xs } := by unfold guessO; rw [if_neg (by omega), if_neg (by omega), if_neg (by omega)]
theorem guessO_com {xs : List Int} (hk : xAt xs 0 = 3) (bv ev pv : Value) : guessO xs bv ev pv = { kindO 3 with com := gCom xs, pv := pv } := by unfold guessO; rw [if_neg (by omega), if_neg (by omega), if_pos hk]
theorem guessO_tree {xs : List Int} (hk : xAt xs 0 = 2) (bv ev pv : Value) : guessO xs bv ev pv = { kindO 2 with ev := ev, es := gTree xs } := by unfold guessO; rw [if_neg (by omega), if_pos hk]
theorem guessO_blob {xs : List Int} (hk : xAt xs 0 = 1) (bv ev pv : Value) : guessO xs bv ev pv = { kindO 1 with bv := bv, blob := xs.drop 1 } := by unfold guessO; rw [if_pos hk]
theorem gok_tag [TabC] {xs : List Int} (hk : xAt xs 0 = 4) : gOk xs = true ↔ faultG (gTag xs) = 0 ∧ encG (gTag xs) = xs := gok_iff xs _ ⟨nilV, nilV, nilV, guessO_tag hk _ _ _⟩
theorem gok_com [TabC] {xs : List Int} (hk : xAt xs 0 = 3) : gOk xs = true ↔ faultC (gCom xs) = 0 ∧ encC (gCom xs) = xs := gok_iff xs _ ⟨nilV, nilV, nilV, guessO_com hk _ _ _⟩
theorem gok_tree [TabC] {xs : List Int} (hk : xAt xs 0 = 2) : gOk xs = true ↔ faultT (gTree xs) = 0 ∧ encT (gTree xs) = xs := gok_iff xs _ ⟨nilV, nilV, nilV, guessO_tree hk _ _ _⟩
theorem gok_blob [TabC] {xs : List Int} (hk : xAt xs 0 = 1) (hne : xs ≠ []) : gOk xs = true := by
  refine (gok_iff xs _ ⟨nilV, nilV, nilV, guessO_blob hk _ _ _⟩).2 ⟨rfl, ?_⟩
  obtain ⟨x, r, rfl⟩ : ∃ x r, xs = x :: r := by cases xs with | nil => exact absurd rfl hne | cons x r => exact ⟨x, r, rfl⟩
  have e : x = 1 := hk
  show fixedB 1 1 ++ r = x :: r
  rw [fixedB_one 1 (by decide) (by decide), e]
  rfl
theorem tag_fit [TabC] {t : TagL} (hg : t.Good) (hf : faultG t = 0) : t.Fit := by
  obtain ⟨a, b, c, d, e⟩ := faultG_zero hf
  exact ⟨hg.target.1, a, b, c, d, hg.t0, hg.t1, e⟩
theorem com_fit [TabC] {c : ComL} (hg : c.Good) (hf : faultC c = 0) : c.Fit := by
  obtain ⟨a, b, d⟩ := faultC_zero hf
  exact ⟨hg.tree.1, fun o ho => (hg.parents o ho).1, a, b, hg.t0, hg.t1, d⟩
theorem ents_fit [TabC] {es : List EntL} (hg : ∀ e, e ∈ es → e.Good) (hf : faultT es = 0) : ∀ e, e ∈ es → e.Fit := fun e he => by
  obtain ⟨_, h⟩ := faultT_zero hf
  exact ⟨(h e he).1, (h e he).2.1, (h e he).2.2, (hg e he).id.1⟩
end Go.Proofs.YtddhhjgegkkjbaaGreatDoor
