/-
  WALKS: satchelref3.Wrong of a tree; satchelref3.Encode, of any object.
  COPY of a list of structs of k cells into memory of its own.
  WALK: satchelref0.Copy, for every slice of bytes.
  What is read is good; object.read's plain part.
-/
import Derived.Test.YtmjakhmkddgffaaGreatDoorEqAn
import Derived.Test.YtmjakhmkddgffaaGreatDoorRe9
import Derived.Test.YtmjakhmkddgffaaGreatDoorRows0
import Derived.Laws.CopyRow
import Derived.Laws.MakeOwn
import Derived.Lib.SlBuf
import Derived.Test.YtmjakhmkddgffaaGreatDoorLookFixed
import Derived.Test.YtmjakhmkddgffaaGreatDoorEncBlob
namespace Go.Proofs.YtmjakhmkddgffaaGreatDoor
open Go.RowKit

set_option maxRecDepth 100000 in
set_option maxHeartbeats 2000000 in
theorem R3wrongTree_any (o : ObjL) (w : World) (h2 : o.kind = 2) (hc : o.com.tree.length = 32) (hv : EntsAt w o.ev o.es) (hg : ∀ e, e ∈ o.es → e.Good) :
    Calls Tryz.prog 36 #[.agg o.row.toArray] w fun e w' => e = .returned (.int .i64 (faultT o.es)) ∧ Kept [] w w' := by
  have hB := heap_alloc_new w (.cells o.row.toArray 37)
  obtain ⟨c0, _, c2, _, _⟩ := obj_cells hc hB
  rw [h2] at c0
  have hk : Kept [] w (w.alloc (.cells o.row.toArray 37)) := (Kept.refl _ _).alloc _
  have hcall := R3tree_any o.ev o.es _ (hv.keep hk (fun _ _ _ => by simp)) hg
  have HK : Hid (Kept [] w (w.alloc (.cells o.row.toArray 37))) := hk
  clear hv hg hB hk h2
  generalize o.row.toArray = row at *
  generalize o.ev = cr at *
  generalize faultT o.es = fc at *
  go_enter Tryz.func36, Tryz.ntmps36
  go_wp2_with fail
  go_at_call 55
  refine hcall.mono ?_
  rintro e w1 ⟨rfl, k1⟩
  have HK1 : Hid (Kept [] w w1) := HK.out.then k1
  clear hcall k1
  go_wp2
  go_ret
  exact ⟨rfl, HK1.out⟩

theorem R3Wrong_any (o : ObjL) (w : World) (hg : ObjL.Good w o) :
    Calls Tryz.prog 36 #[.agg o.row.toArray] w fun e w' => e = .returned (.int .i64 (faultO o)) ∧ Kept [] w w' := by
  have hc := hg.com.tree.1
  by_cases k2 : o.kind = 2
  · have ef : faultO o = faultT o.es := by unfold faultO; rw [if_neg (by omega), if_pos k2]
    rw [ef]
    exact R3wrongTree_any o w k2 hc hg.ev hg.es
  · by_cases k3 : o.kind = 3
    · have ef : faultO o = faultC o.com := by unfold faultO; rw [if_neg (by omega), if_neg k2, if_pos k3]
      rw [ef]
      exact R3wrongCom_any o w k3 hg.com hg.pv
    · by_cases k4 : o.kind = 4
      · have ef : faultO o = faultG o.tag := by unfold faultO; rw [if_neg (by omega), if_neg k2, if_neg k3, if_pos k4]
        rw [ef]
        exact R3wrongTag_any o w k4 hc hg.tag
      · have ef : faultO o = if o.kind = 1 then 0 else 30 := by unfold faultO; rw [if_neg k2, if_neg k3, if_neg k4]
        rw [ef]
        exact R3wrongRest_any o w hc k2 k3 k4
theorem R3lay_any (o : ObjL) (w : World) (hg : ObjL.Good w o) (hf : faultO o = 0) :
    Calls Tryz.prog 37 #[.agg o.row.toArray] w fun e w' => ∃ v, e = .returned v ∧ OwnB w' w.heap.size v (encO o) ∧ Kept [] w w' := by
  have hc := hg.com.tree.1
  by_cases k1 : o.kind = 1
  · have ee : encO o = fixedB 1 1 ++ o.blob := by unfold encO; rw [if_pos k1]; rfl
    rw [ee]
    exact R3layBlob_any o w k1 hc hg.bv hg.blob.2
  · by_cases k2 : o.kind = 2
    · have ee : encO o = encT o.es := by unfold encO; rw [if_neg k1, if_pos k2]
      have ef : faultO o = faultT o.es := by unfold faultO; rw [if_neg k1, if_pos k2]
      rw [ef] at hf
      obtain ⟨hm, hok⟩ := faultT_zero hf
      rw [ee]
      exact R3layTree_any o w k2 hc hg.ev hg.es hm hok
    · by_cases k3 : o.kind = 3
      · have ee : encO o = encC o.com := by unfold encO; rw [if_neg k1, if_neg k2, if_pos k3]
        have ef : faultO o = faultC o.com := by unfold faultO; rw [if_neg k1, if_neg k2, if_pos k3]
        rw [ef] at hf
        obtain ⟨h8, hw, hx⟩ := faultC_zero hf
        rw [ee]
        exact R3layCom_any o w k3 hg.com hg.pv h8 (by omega)
      · by_cases k4 : o.kind = 4
        · have ee : encO o = encG o.tag := by unfold encO; rw [if_neg k1, if_neg k2, if_neg k3, if_pos k4]
          have ef : faultO o = faultG o.tag := by unfold faultO; rw [if_neg k1, if_neg k2, if_neg k3, if_pos k4]
          rw [ef] at hf
          obtain ⟨g0, g1, hn, hw, hx⟩ := faultG_zero hf
          rw [ee]
          exact R3layTag_any o w k4 hc hg.tag g0 g1 (by omega)
        · unfold faultO at hf
          rw [if_neg k1, if_neg k2, if_neg k3, if_neg k4] at hf
          exact absurd hf (by decide)
theorem R3Enc_any (o : ObjL) (w : World) (hg : ObjL.Good w o) :
    Calls Tryz.prog 17 #[.agg o.row.toArray] w fun e w' => ∃ v, e = .returned (.tuple #[v, .int .i64 (errO o)]) ∧ BytesAt w' v (if errO o = 0 then encO o else []) ∧ Kept [] w w' :=
  R3Encode_any o.row.toArray w (faultO o) (encO o) (by rw [List.size_toArray, objL_len hg.com.tree.1 hg.tag.target.1]; kernel_rfl) (fun W k => R3Wrong_any o W (hg.kept k)) (fun hf W k => R3lay_any o W (hg.kept k) hf)
end Go.Proofs.YtmjakhmkddgffaaGreatDoor

namespace Go.Proofs.YtmjakhmkddgffaaGreatDoor
open Go.RowKit

theorem run_copy_k {P : Program} (w : World) (dT sT ty elem : TypeId) (k : Nat) (g dLen dCap : Nat) (a : Addr) (sLen sCap : Nat) (cur : Array Value) (t : TypeId) (cs : List Value)
    (hu : P.underlying dT = some (.slice elem)) (hs : (P.info? elem).map (·.size) = some k)
    (hg : w.heap[g]? = some (.cells cur t (0, 0))) (hn : cs.length = Nat.min sLen dLen * k)
    (hsrc : ∀ j v, cs[j]? = some v → w.cell? (a.add j) = some v) (hfit : cs.length = cur.size) (h1 : ∀ v ∈ cs, v.oneCell' = true) :
    (Builtin.copy_ #[dT, sT] ty #[.slice (some ⟨g, 0, none⟩) dLen dCap, .slice (some a) sLen sCap]).run P w =
      .ok (goInt (Nat.min sLen dLen)) (w.setRow g cs.toArray) := by
  have hl := run_loadCells_list (P := P) w a cs hsrc
  have hst := run_storeCells_at P g 0 t cs 0 cur w hg (by omega) h1
  have e : (cur.toList.take (0 + 0) ++ cs ++ cur.toList.drop (0 + 0 + cs.length)).toArray = cs.toArray := by
    rw [List.drop_eq_nil_of_le (by rw [Array.length_toList]; omega)]
    simp
  rw [e] at hst
  cases hq : P.info? elem with
  | none => simp [hq] at hs
  | some i =>
    have hi : i.size = k := by simpa [hq] using hs
    simp [Builtin.copy_, run_underlying hu, Builtin.lenOf, Builtin.firstCells, sizeOf, typeInfo, hq, hi, ← hn, hl, hst]

/-- Rows of k cells that lie in a row from an address on, as one list of cells. -/
theorem rows_src {w : World} {b off k : Nat} (hk : 0 < k) {rows : List (List Value)} (hr : ∀ r, r ∈ rows → r.length = k) (h : ∀ (i : Nat) (cs : List Value), rows[i]? = some cs → w.rangeAt b (off + i * k) cs) :
    ∀ j v, rows.flatten[j]? = some v → w.cell? ((⟨b, off, none⟩ : Addr).add j) = some v := fun j v hj => by
  rw [flat_bind k hk rows hr j] at hj
  obtain ⟨r, hri, hrj⟩ := Option.bind_eq_some_iff.1 hj
  have hc := h _ r hri _ v hrj
  rw [Addr.add_mid]
  rw [show off + j / k * k + j % k = off + j by have := Nat.div_add_mod j k; rw [Nat.mul_comm] at this; omega] at hc
  exact hc
end Go.Proofs.YtmjakhmkddgffaaGreatDoor

namespace Go.Proofs.YtmjakhmkddgffaaGreatDoor
open Go.RowKit

set_option maxHeartbeats 400000 in
theorem Copy_any (v : Value) (ys : List Int) (w : World) (h : BytesAt w v ys) (hm : ys.length ≤ 140737488355328) :
    Calls Tryz.prog 35 #[v] w fun e w' => e = .returned (.slice (some ⟨w.heap.size, 0, none⟩) ys.length ys.length) ∧
      w'.heap[w.heap.size]? = some (.cells (ys.map (Value.int .u8)).toArray 5 (0, 0)) ∧ Kept [] w w' := by
  obtain ⟨ao, cap, rfl, hc, hnil, hcell⟩ := h
  have hmk := run_make_row' (P := Tryz.prog) 26 5 (.int .u8 0) 1 Tryz.underlying26 Tryz.info_u8 rfl .i64 .i64 ys.length (by omega) (by omega)
  obtain ⟨cs, hcs⟩ : ∃ cs, cs = ys.map (Value.int .u8) := ⟨_, rfl⟩
  have HC : Hid (cs = ys.map (Value.int .u8)) := hcs
  clear hcs
  go_enter Tryz.func35, Tryz.ntmps35
  go_wp2_with (refine wpList_copy_splice rfl (.tmp 7) (.tmp 8) 26 26 rfl 5 Tryz.underlying26 Tryz.size_u8 _ _ _ _ _ _ rfl rfl w.heap.size 0 (List.replicate ys.length (.int .u8 0)) 5 ?cg cs ?cn ?cp ?cf ?co w.heap.size w ?cb (Nat.le_refl _) ?_)
  case cg => rw [← toList_madeCells_one]; exact heap_alloc_new w _
  case cn => rw [HC.out]; simp
  case cp =>
    intro h0
    rw [HC.out] at h0
    obtain ⟨b, off, rfl, hh⟩ := hcell (by rintro rfl; simp at h0)
    refine ⟨_, rfl, fun j u hu => ?_⟩
    rw [HC.out] at hu
    simp only [List.getElem?_map, Option.map_eq_some_iff] at hu
    obtain ⟨z, hz, rfl⟩ := hu
    rw [Addr.add_mid, World.cell?_alloc_lt]
    · exact hh j z hz
    · exact World.block_lt_of_cell? w _ (hh j z hz)
  case cf => rw [HC.out]; simp
  case co => rw [HC.out]; exact map_oneCell ys
  case cb => exact (Below.refl _ _).alloc (Nat.le_refl _) _
  intro w2 hg hb
  go_wp2
  go_ret
  refine ⟨rfl, ?_, kept_of_below hb⟩
  rw [hg.out, splice_all _ _ _ (by rw [HC.out]; simp), HC.out]
end Go.Proofs.YtmjakhmkddgffaaGreatDoor

namespace Go.Proofs.YtmjakhmkddgffaaGreatDoor
open Go.RowKit

theorem take_octs (xs : List Int) (ho : Octs xs) (pl f : Nat) (kind size most : Int) : Octs (takeL xs pl f kind size most).text := by
  unfold takeL
  split
  · intro u hu; simp at hu
  · split
    · intro u hu; simp at hu
    · intro u hu
      exact ho u (List.mem_of_mem_drop (List.mem_of_mem_take (List.mem_of_mem_drop hu)))
theorem idOf_good {t : List Int} (ho : Octs t) (hl : t.length ≤ 32) : GoodID (idOf t) := ⟨idOf_len hl, fun u hu => by
  unfold idOf at hu
  rcases List.mem_append.1 hu with h | h
  · exact ho u h
  · have := List.mem_of_mem_drop h
    unfold zero32 at this
    rw [(List.mem_replicate.1 this).2]
    exact ⟨by decide, by decide⟩⟩
theorem take_text_good (xs : List Int) (ho : Octs xs) (hs : xs.length ≤ 65536) (pl f : Nat) (kind size most : Int) : GoodText (takeL xs pl f kind size most).text := ⟨take_octs xs ho pl f kind size most, Nat.le_trans (take_len xs pl f kind size most) (by omega)⟩
theorem rdEs_good (xs : List Int) (ho : Octs xs) (hs : xs.length ≤ 65536) (pl f : Nat) : ∀ k e, e ∈ (rdEs xs pl f k).1 → e.Good
  | 0, e, h => by simp [rdEs] at h
  | k + 1, e, h => by
    unfold rdEs at h
    rcases List.mem_append.1 h with h | h
    · exact rdEs_good xs ho hs pl f k e h
    · rw [List.mem_singleton.1 h]
      have hb := take_lt xs ho (rdEs xs pl f k).2.1 (rdEs xs pl f k).2.2 1
      have hb1 : (takeL xs (rdEs xs pl f k).2.1 (rdEs xs pl f k).2.2 0 ((1 : Nat) : Int) 0).n < 256 := hb.2
      have hb0 := hb.1
      exact ⟨by show -9223372036854775808 ≤ (takeL xs (rdEs xs pl f k).2.1 (rdEs xs pl f k).2.2 0 ((1 : Nat) : Int) 0).n; omega, by show (takeL xs (rdEs xs pl f k).2.1 (rdEs xs pl f k).2.2 0 ((1 : Nat) : Int) 0).n ≤ 9223372036854775807; omega, take_text_good xs ho hs _ _ _ _ _, idOf_good (take_octs xs ho _ _ _ _ _) (raw32_len _ _ _)⟩
theorem EntsAt.of_rows {w : World} {b : Nat} {es : List EntL} (h : RowsIn w b 80 (es.map EntL.row)) (hg : ∀ e, e ∈ es → e.Good) (hl : es.length ≤ 1024) : EntsAt w (.slice (some ⟨b, 0, none⟩) es.length es.length) es := by
  refine ⟨_, es.length, by rw [List.length_map], by rw [List.length_map]; exact Nat.le_refl _, fun e => (by cases e), by rw [List.length_map]; omega, fun _ => ⟨b, 0, rfl, fun i cs hi => ?_⟩⟩
  rw [Nat.zero_add]
  exact h.range 34 (by decide) (fun r hr => by
    obtain ⟨e, he, rfl⟩ := List.mem_map.1 hr
    exact EntL.row_len (hg e he).id) i cs hi
theorem take_f (xs : List Int) (ho : Octs xs) (pl f : Nat) (hf : f ≤ 4) (kind size most : Int) (hs : kind = 0 → size ≤ 8) (hm : most ≤ 18446744073709551615) : (takeL xs pl f kind size most).f ≤ 4 := by
  unfold takeL
  split
  · exact hf
  · split
    · exact (lookL_fits (xs.drop pl) kind size most (octs_drop ho pl) hs hm).f
    · exact Nat.zero_le _
theorem rdIs_good (xs : List Int) (ho : Octs xs) (pl f : Nat) : ∀ k e, e ∈ (rdIs xs pl f k).1 → GoodID e
  | 0, e, h => by simp [rdIs] at h
  | k + 1, e, h => by
    unfold rdIs at h
    rcases List.mem_append.1 h with h | h
    · exact rdIs_good xs ho pl f k e h
    · rw [List.mem_singleton.1 h]
      exact idOf_good (take_octs xs ho _ _ _ _ _) (raw32_len _ _ _)
theorem IdsAt.of_rows {w : World} {b : Nat} {ids : List (List Int)} (h : RowsIn w b 29 (ids.map idRow)) (hg : ∀ e, e ∈ ids → GoodID e) (hl : ids.length ≤ 1024) : IdsAt w (.slice (some ⟨b, 0, none⟩) ids.length ids.length) ids := by
  refine ⟨_, ids.length, rfl, Nat.le_refl _, fun e => (by cases e), by omega, fun _ => ⟨b, 0, rfl, fun i xs hi => ?_⟩⟩
  rw [Nat.zero_add]
  exact h.range 32 (by decide) (fun r hr => by
    obtain ⟨e, he, rfl⟩ := List.mem_map.1 hr
    unfold idRow
    rw [List.length_map, (hg e he).1]) i _ (by rw [List.getElem?_map, hi]; rfl)
theorem errL_ne : ∀ f : Nat, f ≠ 0 → f ≤ 4 → errL f ≠ 0
  | 0, h, _ => absurd rfl h
  | 1, _, _ => by decide
  | 2, _, _ => by decide
  | 3, _, _ => by decide
  | 4, _, _ => by decide
  | _ + 5, _, h => by omega
end Go.Proofs.YtmjakhmkddgffaaGreatDoor
