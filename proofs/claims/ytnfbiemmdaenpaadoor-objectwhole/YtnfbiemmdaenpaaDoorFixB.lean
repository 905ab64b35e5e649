/-
  Ids as values, in memory, and lists of them.
  WALK: code.copied, for every slice of bytes: a new row that holds the same bytes.
  PLAIN MATHEMATICS, continued: what is found lies within the bytes. No Go text is named here.
  WALKS: code.New and the methods of a Writer, for every Writer.
  PLAIN: a number in so many bytes, the highest first, as it is written.
-/
import Derived.Test.YtnfbiemmdaenpaaDoorPlain
import Derived.Laws.BytesArg
import Derived.Laws.ResultCell
import Derived.Deep.MidRow
import Derived.Maps.AppendAt
import Derived.Laws.AppendOwnNone
namespace Go.Proofs.YtnfbiemmdaenpaaDoor
open Go.RowKit

/-- An id as a value. -/
def idC (bs : List Int) : Array Value := (bs.map (Value.int .u8)).toArray
theorem idC_get {bs : List Int} {j : Nat} (h : j < bs.length) : (idC bs)[j]? = some (.int .u8 (bs[j]?.getD 0)) := by
  unfold idC
  rw [← Array.getElem?_toList]
  simp [List.getElem?_eq_getElem h]
theorem row_bytes' {w : World} {q : Nat} {ys : List Int} (h : w.heap[q]? = some (.cells (ys.map (Value.int .u8)).toArray 5 (0, 0))) : BytesAt w (.slice (some ⟨q, 0, none⟩) ys.length ys.length) ys := by
  refine ⟨_, _, rfl, Nat.le_refl _, fun e => (by simp at e), fun _ => ⟨q, 0, rfl, fun i u hu => ?_⟩⟩
  rw [cell_of_row _ _ _ _ _ _ h, Nat.zero_add, ← Array.getElem?_toList]
  simp [hu]

theorem Tryd.infoID : (Tryd.prog.info? 25).map (·.size) = some 32 := by kernel_rfl
theorem idC_size {bs : List Int} (h : bs.length = 32) : (idC bs).size = 32 := by simp [idC, h]
def GoodID (xs : List Int) : Prop := xs.length = 32 ∧ Octs xs
/-- The zero id's bytes. -/
def zero32 : List Int := List.replicate 32 0
theorem kept_setRow {w wr : World} (h : Kept [] w wr) {g : Nat} (hg : w.heap.size ≤ g) (cs : Array Value) : Kept [] w (wr.setRow g cs) :=
  kept_of_below (below_setRow (h.below (Nat.le_refl _) (by simp)) hg cs)

theorem range_kept {w w' : World} {b o : Nat} {cs : List Value} {T : List Nat} (h : w.rangeAt b o cs) (k : Kept T w w') (hn : b ∉ T) : w'.rangeAt b o cs := fun j v hj => k.cell (h j v hj) hn
theorem range_box (w : World) (bs : List Int) (t : TypeId) : (w.alloc (.cells (idC bs) t)).rangeAt w.heap.size 0 (bs.map (Value.int .u8)) := fun j v hj => by
  rw [cell_of_row _ _ _ _ _ _ (heap_alloc_new w _), Nat.zero_add, ← Array.getElem?_toList]
  simpa [idC] using hj

/-- A list of ids lies so. -/
def IdsAt (w : World) (v : Value) (ids : List (List Int)) : Prop :=
  ∃ ao cap, v = .slice ao ids.length cap ∧ ids.length ≤ cap ∧ (ao = none → cap = 0) ∧ ids.length ≤ 140737488351232 ∧ (ids ≠ [] → ∃ b off, ao = some ⟨b, off, none⟩ ∧ ∀ (i : Nat) (xs : List Int), ids[i]? = some xs → w.rangeAt b (off + i * 32) (xs.map (Value.int .u8)))
theorem IdsAt.keep {w w' : World} {v : Value} {ids : List (List Int)} {T : List Nat} (h : IdsAt w v ids) (k : Kept T w w') (hn : ids ≠ [] → ∀ b, blkOf v = some b → b ∉ T) : IdsAt w' v ids := by
  obtain ⟨ao, cap, rfl, h1, h0, h2, hc⟩ := h
  refine ⟨ao, cap, rfl, h1, h0, h2, fun hne => ?_⟩
  obtain ⟨b, off, rfl, hh⟩ := hc hne
  exact ⟨b, off, rfl, fun i xs hi => range_kept (hh i xs hi) k (hn hne b rfl)⟩

end Go.Proofs.YtnfbiemmdaenpaaDoor

namespace Go.Proofs.YtnfbiemmdaenpaaDoor
open Go.RowKit

set_option maxHeartbeats 400000 in
theorem copied_any (v : Value) (ys : List Int) (w : World) (h : BytesAt w v ys) (hm : ys.length ≤ 140737488355328) :
    Calls Tryd.prog 32 #[v] w fun e w' => e = .returned (.slice (some ⟨w.heap.size, 0, none⟩) ys.length ys.length) ∧
      w'.heap[w.heap.size]? = some (.cells (ys.map (Value.int .u8)).toArray 5 (0, 0)) ∧ Kept [] w w' := by
  obtain ⟨ao, cap, rfl, hc, hnil, hcell⟩ := h
  have hmk := run_make_row' (P := Tryd.prog) 22 5 (.int .u8 0) 1 Tryd.underlying22 Tryd.info_u8 rfl .i64 .i64 ys.length (by omega) (by omega)
  obtain ⟨cs, hcs⟩ : ∃ cs, cs = ys.map (Value.int .u8) := ⟨_, rfl⟩
  have HC : Hid (cs = ys.map (Value.int .u8)) := hcs
  clear hcs
  go_enter Tryd.func32, Tryd.ntmps32
  go_wp2_with (refine wpList_copy_splice rfl (.tmp 7) (.tmp 8) 22 22 rfl 5 Tryd.underlying22 Tryd.size_u8 _ _ _ _ _ _ rfl rfl w.heap.size 0 (List.replicate ys.length (.int .u8 0)) 5 ?cg cs ?cn ?cp ?cf ?co w.heap.size w ?cb (Nat.le_refl _) ?_)
  case cg => rw [← toList_madeCells_one]; exact heap_alloc_new w _
  case cn => rw [HC.out]; simp
  case cp =>
    intro h0
    rw [HC.out] at h0
    obtain ⟨b, off, rfl, hh⟩ := hcell (by rintro rfl; simp at h0)
    refine ⟨_, rfl, fun j u hu => ?_⟩
    rw [HC.out] at hu
    simp only [List.getElem?_map, Option.map_eq_some_iff] at hu
    obtain ⟨z, hz, rfl⟩ := hu
    rw [Addr.add_mid, World.cell?_alloc_lt]
    · exact hh j z hz
    · exact World.block_lt_of_cell? w _ (hh j z hz)
  case cf => rw [HC.out]; simp
  case co => rw [HC.out]; exact map_oneCell ys
  case cb => exact (Below.refl _ _).alloc (Nat.le_refl _) _
  intro w2 hg hb
  go_wp2
  go_ret
  refine ⟨rfl, ?_, kept_of_below hb⟩
  rw [hg.out, splice_all _ _ _ (by rw [HC.out]; simp), HC.out]

end Go.Proofs.YtnfbiemmdaenpaaDoor

namespace Go.Proofs.YtnfbiemmdaenpaaDoor
open Go.RowKit

structure Fnd.Fits (x : Fnd) (len : Nat) : Prop where
  n0 : 0 ≤ x.n
  n1 : x.n ≤ 18446744073709551615
  frm : x.frm ≤ x.to
  to : x.to ≤ len
  f : x.f ≤ 4
  bad : x.f ≠ 0 → x = ⟨0, 0, 0, x.f⟩

theorem fits_bad (f len : Nat) (h : f ≤ 4) : Fnd.Fits ⟨0, 0, 0, f⟩ len := ⟨Int.le_refl _, (by dsimp only; decide), Nat.le_refl _, Nat.zero_le _, h, fun _ => rfl⟩
theorem varL_fits (ys : List Int) (most : Int) (ho : Octs ys) (hm : most ≤ 18446744073709551615) : Fnd.Fits (varL ys most) ys.length := by
  obtain ⟨g1, g2, g3, g4, g5, g6, g7⟩ := varL_good ys most ho
  refine ⟨g1, ?_, g3, g4, by omega, g6⟩
  by_cases h : (varL ys most).f = 0
  · have := g2 h; omega
  · rw [g6 h]; dsimp only; decide
theorem fixedL_fits (ys : List Int) (size : Nat) (ho : Octs ys) (hs : size ≤ 8) : Fnd.Fits (fixedL ys size) ys.length := by
  unfold fixedL
  split
  · exact fits_bad 1 _ (by decide)
  · rename_i hl
    have h1 := be_from (ys.take size) (octs_take ho size) 0 (by omega)
    have h2 : (ys.take size).length = size := by simp; omega
    have h3 : ∀ k : Nat, k ≤ 8 → (256 : Int) ^ k ≤ 18446744073709551616 := by decide +kernel
    have h4 := h3 size hs
    rw [h2] at h1
    have h5 : be (ys.take size) < (0 + 1) * 256 ^ size := h1.2
    have h6 : 0 ≤ be (ys.take size) := h1.1
    exact ⟨h6, by dsimp only; omega, Nat.le_refl _, by dsimp only; omega, Nat.zero_le _, fun h => absurd rfl h⟩
theorem rawL_fits (ys : List Int) (size : Int) : Fnd.Fits (rawL ys size) ys.length := by
  unfold rawL
  split
  · exact fits_bad 4 _ (by decide)
  · split
    · exact fits_bad 1 _ (by decide)
    · exact ⟨Int.le_refl _, (by dsimp only; decide), Nat.zero_le _, by dsimp only; omega, Nat.zero_le _, fun h => absurd rfl h⟩
theorem bytesL_fits (ys : List Int) (most : Int) (ho : Octs ys) (hm : most ≤ 18446744073709551615) : Fnd.Fits (bytesL ys most) ys.length := by
  obtain ⟨g1, g2, g3, g4, g5, g6⟩ := varL_fits ys most ho hm
  unfold bytesL
  split
  · exact fits_bad _ _ g5
  · split
    · exact fits_bad 1 _ (by decide)
    · exact ⟨g1, g2, by dsimp only; omega, by dsimp only; omega, Nat.zero_le _, fun h => absurd rfl h⟩
theorem lookL_fits (ys : List Int) (kind size most : Int) (ho : Octs ys) (hs : kind = 0 → size ≤ 8) (hm : most ≤ 18446744073709551615) : Fnd.Fits (lookL ys kind size most) ys.length := by
  unfold lookL
  split
  · rename_i h; exact fixedL_fits ys _ ho (by have := hs h; omega)
  · split
    · exact varL_fits ys most ho hm
    · split
      · exact bytesL_fits ys most ho hm
      · exact rawL_fits ys size

/-- A piece of a row of bytes. -/
theorem BytesAt.seg {w : World} {g : Nat} {t : TypeId} {xs : List Int} (h : w.heap[g]? = some (.cells (xs.map (Value.int .u8)).toArray t (0, 0))) (lo n cap : Nat) (hn : lo + n ≤ xs.length) (hc : n ≤ cap) :
    BytesAt w (.slice (some ⟨g, lo, none⟩) n cap) ((xs.drop lo).take n) := by
  have hl : ((xs.drop lo).take n).length = n := by simp; omega
  refine ⟨some ⟨g, lo, none⟩, cap, by rw [hl], by rw [hl]; exact hc, fun e => (by simp at e), fun _ => ⟨g, lo, rfl, fun i u hu => ?_⟩⟩
  rw [cell_of_row w g (lo + i) _ t _ h]
  have hi : i < n := by have := (List.getElem?_eq_some_iff.1 hu).1; omega
  rw [List.getElem?_take_of_lt hi, List.getElem?_drop] at hu
  simp only [List.getElem?_toArray, List.getElem?_map, hu, Option.map_some]
theorem BytesAt.none' {w : World} (ao : Option Addr) (cap : Nat) (hc : ao = none → cap = 0) : BytesAt w (.slice ao 0 cap) [] := ⟨ao, cap, rfl, Nat.zero_le _, hc, fun h => absurd rfl h⟩
theorem BytesAt.drewN {w : World} {v : Value} {ys : List Int} (h : BytesAt w v ys) (n : Nat) : BytesAt (w.drewN n) v ys := h.kept (S := []) ((Kept.refl _ _).drewN n) (fun _ _ => by simp)

end Go.Proofs.YtnfbiemmdaenpaaDoor

namespace Go.Proofs.YtnfbiemmdaenpaaDoor
open Go.RowKit

/-- The Writer in block wb holds the bytes zs; S: all the memory that is its own; none of it lies below B. -/
def WAt (w : World) (wb B : Nat) (zs : List Int) (S : List Nat) : Prop :=
  ∃ ao cap, w.heap[wb]? = some (.cells #[.slice ao zs.length cap] 85 (0, 0)) ∧ w.ownsRow B 5 1 (.slice ao zs.length cap) zs.length (zs.map (Value.int .u8)) ∧
    S = wb :: (Value.slice ao zs.length cap).ownBlock.toList ∧ (Value.slice ao zs.length cap).ownBlock ≠ some wb ∧ Octs zs ∧ B ≤ wb

theorem own_shape {w : World} {B : Nat} {e : TypeId} {size n : Nat} {v : Value} {xs : List Value} (h : w.ownsRow B e size v n xs) : ∃ ao cap, v = .slice ao n cap := by
  rcases h.2 with ⟨rfl, rfl⟩ | ⟨g, cap, cur, rfl, _⟩
  · exact ⟨none, 0, rfl⟩
  · exact ⟨_, _, rfl⟩

theorem WAt.lt {w : World} {wb B : Nat} {zs : List Int} {S : List Nat} (h : WAt w wb B zs S) : ∀ x, x ∈ S → B ≤ x ∧ x < w.heap.size := by
  obtain ⟨ao, cap, hb, ho, rfl, _, _, hB⟩ := h
  intro x hx
  rcases List.mem_cons.1 hx with rfl | hx
  · exact ⟨hB, lt_of_block hb⟩
  · exact ho.lt x (by simpa using hx)

theorem WAt.kept {w w' : World} {wb B : Nat} {zs : List Int} {S T : List Nat} (h : WAt w wb B zs S) (k : Kept T w w') (hd : ∀ x, x ∈ S → x ∉ T) : WAt w' wb B zs S := by
  obtain ⟨ao, cap, hb, ho, rfl, hne, hoc, hB⟩ := h
  refine ⟨ao, cap, k.heap hb (hd wb (by simp)), ⟨ho.1, ?_⟩, rfl, hne, hoc, hB⟩
  rcases ho.2 with hn | ⟨g, cap', cur, hv, hg, hh, rest⟩
  · exact Or.inl hn
  · refine Or.inr ⟨g, cap', cur, hv, hg, k.heap hh (hd g ?_), rest⟩
    rw [hv]; simp [Value.ownBlock]

theorem WAt.bytes {w : World} {wb B : Nat} {zs : List Int} {S : List Nat} (h : WAt w wb B zs S) : ∃ ao cap, w.cell? ⟨wb, 0, none⟩ = some (.slice ao zs.length cap) ∧ BytesAt w (.slice ao zs.length cap) zs := by
  obtain ⟨ao, cap, hb, ho, rfl, hne, hoc, hB⟩ := h
  refine ⟨ao, cap, cell_of_one hb, ?_⟩
  rcases ho.2 with ⟨hv, hn⟩ | ⟨g, cap', cur, hv, hg, hh, hnc, hcm, hcs, htk⟩
  · obtain rfl : zs = [] := List.eq_nil_of_length_eq_zero hn
    rw [hv]; exact BytesAt.nil w
  · rw [hv]
    simp only [Value.slice.injEq] at hv
    obtain ⟨rfl, _, rfl⟩ := hv
    refine ⟨_, cap, rfl, hnc, fun e => (by simp at e), fun _ => ⟨g, 0, rfl, fun i u hu => ?_⟩⟩
    have hi : i < zs.length := (List.getElem?_eq_some_iff.1 hu).1
    rw [cell_of_row w g (0 + i) _ _ _ hh, Nat.zero_add, ← Array.getElem?_toList]
    have h2 : (cur.toList.take (zs.length * 1))[i]? = cur.toList[i]? := List.getElem?_take_of_lt (by omega)
    rw [← h2, htk]
    simp [hu]

set_option maxHeartbeats 400000 in
theorem New_any (w : World) (B : Nat) (hB : B ≤ w.heap.size) : Calls Tryd.prog 20 #[] w fun e w' => e = .returned (.pointer (some ⟨w.heap.size, 0, none⟩)) ∧ WAt w' w.heap.size B [] [w.heap.size] ∧ Kept [] w w' := by
  go_enter Tryd.func20, Tryd.ntmps20
  go_wp2
  go_ret
  exact ⟨rfl, ⟨none, 0, heap_alloc_new w _, World.ownsRow_nil _ _ _ _, rfl, by simp [Value.ownBlock], fun u hu => by simp at hu, hB⟩, (Kept.refl _ _).alloc _⟩

theorem WOut_any {w : World} {wb B : Nat} {zs : List Int} {S : List Nat} (h : WAt w wb B zs S) (hm : zs.length ≤ 140737488355328) : Calls Tryd.prog 22 #[.pointer (some ⟨wb, 0, none⟩)] w fun e w' =>
    e = .returned (.slice (some ⟨w.heap.size, 0, none⟩) zs.length zs.length) ∧ w'.heap[w.heap.size]? = some (.cells (zs.map (Value.int .u8)).toArray 5 (0, 0)) ∧ Kept [] w w' := by
  obtain ⟨ao, cap, hc, hb⟩ := h.bytes
  have hcall := copied_any _ zs w hb hm
  clear h hb
  go_enter Tryd.func22, Tryd.ntmps22
  go_wp2_with (go_at_call 32; refine hcall.mono ?_; rintro e w1 ⟨rfl, hg, hk⟩; have HG : Hid _ := hg; clear hg)
  go_ret
  exact ⟨rfl, HG.out, hk⟩

/-- What a Writer's call leaves: more bytes; its memory is its own; nothing else has turned. -/
def Wrote (w w' : World) (wb B : Nat) (zs : List Int) (S : List Nat) : Prop := ∃ S', WAt w' wb B zs S' ∧ Kept S w w' ∧ ∀ x, x ∈ S' → x ∈ S ∨ w.heap.size ≤ x

theorem Wrote.trans {w w1 w2 : World} {wb B : Nat} {us : List Int} {S S1 : List Nat} (k1 : Kept S w w1) (hS1 : ∀ x, x ∈ S1 → x ∈ S ∨ w.heap.size ≤ x) (h2 : Wrote w1 w2 wb B us S1) : Wrote w w2 wb B us S := by
  obtain ⟨S2, hw, k2, hs2⟩ := h2
  refine ⟨S2, hw, k1.trans k2 hS1, fun x hx => ?_⟩
  rcases hs2 x hx with h | h
  · exact hS1 x h
  · exact Or.inr (Nat.le_trans k1.size h)
theorem Wrote.refl {w : World} {wb B : Nat} {zs : List Int} {S : List Nat} (h : WAt w wb B zs S) : Wrote w w wb B zs S := ⟨S, h, Kept.refl _ _, fun _ hx => Or.inl hx⟩

/-- The world behind an append and the store of what it gave. -/
theorem wrote_of {w wa w1 : World} {wb B : Nat} {zs ys : List Int} {ao : Option Addr} {cap : Nat} {ao' : Option Addr} {cap' : Nat} (ka : Kept [] w wa) (hz : w.heap.size ≤ wa.heap.size)
    (hb : w.heap[wb]? = some (.cells #[.slice ao zs.length cap] 85 (0, 0)))
    (hne : (Value.slice ao zs.length cap).ownBlock ≠ some wb) (hoc : Octs zs) (hoy : Octs ys) (hB : B ≤ wb)
    (ho' : w1.ownsRow B 5 1 (.slice ao' (zs.length + ys.length) cap') (zs.length + ys.length) (zs.map (Value.int .u8) ++ ys.map (Value.int .u8))) (hgr : wa.grownBy w1 (Value.slice ao zs.length cap).ownBlock)
    (hat : (Value.slice ao' (zs.length + ys.length) cap').ownBlock = (Value.slice ao zs.length cap).ownBlock ∨ (Value.slice ao' (zs.length + ys.length) cap').ownBlock = some wa.heap.size) :
    Wrote w (w1.setCell ⟨wb, 0, none⟩ (.slice ao' (zs.length + ys.length) cap')) wb B (zs ++ ys) (wb :: (Value.slice ao zs.length cap).ownBlock.toList) := by
  have hlt := lt_of_block hb
  have hb1 : w1.heap[wb]? = some (.cells #[.slice ao zs.length cap] 85 (0, 0)) := (hgr.block wb (by omega) (Ne.symm hne)).trans (ka.heap hb (by simp))
  have hne' : (Value.slice ao' (zs.length + ys.length) cap').ownBlock ≠ some wb := by
    rcases hat with h | h
    · rw [h]; exact hne
    · rw [h]; simp; omega
  have hl : (zs ++ ys).length = zs.length + ys.length := List.length_append
  refine ⟨wb :: (Value.slice ao' (zs.length + ys.length) cap').ownBlock.toList, ⟨ao', cap', ?_, ?_, by rw [hl], by rw [hl]; exact hne', fun u hu => (List.mem_append.1 hu).elim (hoc u) (hoy u), hB⟩, ?_, ?_⟩
  · rw [hl]; exact one_setCell hb1
  · rw [hl, List.map_append]; exact ownsRow_setCell_other ho' hne' _
  · refine Kept.setCell ?_ (Or.inl (by simp)) _
    exact (ka.more (by simp)).grown hgr (fun k hk => Or.inl (by rw [hk]; simp))
  · intro x hx
    rcases List.mem_cons.1 hx with rfl | hx
    · exact Or.inl (by simp)
    · simp only [Option.mem_toList] at hx
      rcases hat with h | h
      · rw [h] at hx; exact Or.inl (by rw [hx]; simp)
      · rw [h] at hx; simp at hx; exact Or.inr (by omega)

set_option maxHeartbeats 1000000 in
theorem WRaw_any {w : World} {wb B : Nat} {zs : List Int} {S : List Nat} (h : WAt w wb B zs S) (hBw : B ≤ w.heap.size) (v : Value) (ys : List Int) (hv : BytesAt w v ys) (hoy : Octs ys) (hm : zs.length + ys.length ≤ 140737488355328) :
    Calls Tryd.prog 99 #[.pointer (some ⟨wb, 0, none⟩), v] w fun e w' => e = .returned (.tuple #[]) ∧ Wrote w w' wb B (zs ++ ys) S := by
  obtain ⟨ao, cap, hb, ho, rfl, hne, hoc, hB⟩ := h
  obtain ⟨i0, hi, hz0, hz1, hz2⟩ := info_parts Tryd.info_u8
  have hc := cell_of_one hb
  have hfr := free_of_one hb
  obtain ⟨so, sc, rfl, hsc, hsn, hcell⟩ := hv
  cases so with
  | none =>
    obtain rfl : ys = [] := by
      rcases ys with _ | ⟨y, ys⟩
      · rfl
      · obtain ⟨b, off, e, _⟩ := hcell (by simp); simp at e
    obtain rfl : sc = 0 := hsn rfl
    have hw : Wrote w (w.setCell ⟨wb, 0, none⟩ (.slice ao zs.length cap)) wb B (zs ++ []) (wb :: (Value.slice ao zs.length cap).ownBlock.toList) := by
      rw [List.append_nil]
      exact ⟨_, ⟨ao, cap, one_setCell hb, ownsRow_setCell_other ho hne _, rfl, hne, hoc, hB⟩, (Kept.refl _ _).setCell (Or.inl (by simp)) _, fun x hx => Or.inl hx⟩
    have HW : Hid (Wrote w (w.setCell ⟨wb, 0, none⟩ (.slice ao zs.length cap)) wb B (zs ++ []) (wb :: (Value.slice ao zs.length cap).ownBlock.toList)) := hw
    clear hw
    go_enter Tryd.func99, Tryd.ntmps99
    go_wp2_with (at_builtin; refine wpList_append_own_none rfl (.tmp 8) (.tmp 9) 22 rfl B 5 i0 1 Tryd.underlying22 hi _ _ _ rfl ho rfl ?_)
    go_end0
    exact ⟨rfl, by simpa using HW.out⟩
  | some sa =>
    have hnews : ∀ j u, (ys.map (Value.int .u8))[j]? = some u → w.cell? (sa.add j) = some u := by
      intro j u hu
      simp only [List.getElem?_map, Option.map_eq_some_iff] at hu
      obtain ⟨z, hz, rfl⟩ := hu
      obtain ⟨b, off, e, hh⟩ := hcell (by rintro rfl; simp at hz)
      simp only [Option.some.injEq] at e
      subst e
      rw [Addr.add_mid]
      exact hh j z hz
    obtain ⟨cs, hcs⟩ : ∃ cs, cs = ys.map (Value.int .u8) := ⟨_, rfl⟩
    have hcl : cs.length = ys.length * 1 := by rw [hcs]; simp
    have hco : ∀ u ∈ cs, u.oneCell' = true := by rw [hcs]; exact map_oneCell ys
    rw [← hcs] at hnews
    have HC : Hid (cs = ys.map (Value.int .u8)) := hcs
    clear hcs
    go_enter Tryd.func99, Tryd.ntmps99
    go_wp2_with (at_builtin; refine wpList_append_own_at _ rfl (.tmp 8) (.tmp 9) 22 rfl B 5 i0 (.int .u8 0) 1 1 Tryd.underlying22 hi hz0 hz1 hz2 rfl (by decide) (.slice ao zs.length cap) zs.length (zs.map (Value.int .u8)) rfl ho sa ys.length sc cs rfl hcl hnews hco (by unfold maxLen; omega) (by omega) hBw ?_; intro v' w1 ho' hgr hnil hat; obtain ⟨ao', cap', hv'⟩ := own_shape ho'; subst hv'; have hb1 : w1.heap[wb]? = some (.cells #[.slice ao zs.length cap] 85 (0, 0)) := (hgr.block wb (lt_of_block hb) (Ne.symm hne)).trans hb; have c1 := cell_of_one hb1; have f1 := free_of_one hb1; clear hb1 hnil)
    go_end0
    rw [HC.out] at ho'
    exact ⟨rfl, wrote_of (Kept.refl _ _) (Nat.le_refl _) hb hne hoc hoy hB ho' hgr hat⟩

end Go.Proofs.YtnfbiemmdaenpaaDoor

namespace Go.Proofs.YtnfbiemmdaenpaaDoor
open Go.RowKit

/-- A number in so many bytes, the highest first. -/
def fixedB (n : Int) (size : Nat) : List Int := (List.range size).map fun i => n / 256 ^ (size - 1 - i) % 256
theorem fixedB_len (n : Int) (size : Nat) : (fixedB n size).length = size := by simp [fixedB]
theorem fixedB_take (n : Int) (size k : Nat) (h : k < size) : (fixedB n size).take (k + 1) = (fixedB n size).take k ++ [n / 256 ^ (size - 1 - k) % 256] := by
  rw [List.take_succ_eq_append_getElem (by rw [fixedB_len]; exact h)]
  simp [fixedB]
theorem fixedB_octs (n : Int) (size : Nat) : Octs (fixedB n size) := by
  intro u hu
  simp only [fixedB, List.mem_map] at hu
  obtain ⟨i, _, rfl⟩ := hu
  omega

theorem byte_of (n : Int) (j : Nat) : IntKind.u8.wrap (n / 2 ^ (8 * (j : Int)).toNat) = n / 256 ^ j % 256 := by
  rw [show (8 * (j : Int)).toNat = 8 * j by omega, IntKind.wrap_u8', show (256 : Int) = 2 ^ 8 by decide, ← Int.pow_mul]

end Go.Proofs.YtnfbiemmdaenpaaDoor
