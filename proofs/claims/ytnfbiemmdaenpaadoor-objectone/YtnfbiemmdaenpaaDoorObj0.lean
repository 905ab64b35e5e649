/-
  WALKS: object.readID, readText, writeText.
-/
import Derived.Test.YtnfbiemmdaenpaaDoorPlain2
import Derived.Test.YtnfbiemmdaenpaaDoorLen64
import Derived.Test.YtnfbiemmdaenpaaDoorWMoreA
import Derived.Test.YtnfbiemmdaenpaaDoorRows0
import Derived.Deep.RegionLaw
import Derived.Laws.IdiomStrings
namespace Go.Proofs.YtnfbiemmdaenpaaDoor
open Go.RowKit

theorem results_cell1 {fn : Func} {p : Tmp} {ty : TypeId} (h : fn.results = #[.cell p ty]) (tmps : Array Value) (P : Program) (w : World) :
    (results fn tmps).run P w = ((asAddr (tmps.getD p undef)).run P w).andThen fun a w₁ => (loadVar ty a).run P w₁ := by
  simp only [results, h]
  simp [Sem.run_bind, Result.andThen]
theorem kept_below {S : List Nat} {a w w' : World} {B : Nat} (h : Kept S a w) (hb : Below B w w') (hB : a.heap.size ≤ B) : Kept S a w' :=
  ⟨hb.os.trans h.os, hb.tape.trans h.tape, hb.output.trans h.output, Nat.le_trans h.size hb.size, fun k hk hn => (hb.block k (Nat.lt_of_lt_of_le hk hB)).trans (h.block k hk hn)⟩
theorem Rdr.below {w w' : World} {r g : Nat} {xs : List Int} {pl f B : Nat} (R : Rdr w r g xs pl f) (hb : Below B w w') (h1 : r < B) (h2 : g < B) : Rdr w' r g xs pl f :=
  ⟨(hb.block r h1).trans R.blk, (hb.block g h2).trans R.row, R.ne, R.le, R.small, R.oct⟩
theorem slice_all32 (b : Nat) (W : World) : (Instr.sliceAt 25 (.pointer (some ⟨b, 0, none⟩)) none none none).run Tryd.prog W = .ok (.slice (some ⟨b, 0, none⟩) 32 32) W := by
  simp [Instr.sliceAt, go_sem, run_underlying Tryd.underlying25]
theorem Tryd.zeroID (W : World) : (zeroValue 25).run Tryd.prog W = .ok (.agg (idC zero32)) W := by kernel_rfl

/-- What an id is made of, if it is read. -/
def idOf (t : List Int) : List Int := t ++ zero32.drop t.length
theorem raw32_len (xs : List Int) (pl f : Nat) : (takeL xs pl f 3 32 0).text.length ≤ 32 := by
  unfold takeL
  split
  · exact Nat.zero_le _
  · split
    · exact Nat.zero_le _
    · simp only [List.length_drop, List.length_take]
      unfold lookL rawL
      simp
      split <;> simp
      omega
theorem zero_lit32 : (#[Value.int .u8 0, Value.int .u8 0, Value.int .u8 0, Value.int .u8 0, Value.int .u8 0, Value.int .u8 0, Value.int .u8 0, Value.int .u8 0, Value.int .u8 0, Value.int .u8 0, Value.int .u8 0, Value.int .u8 0, Value.int .u8 0, Value.int .u8 0, Value.int .u8 0, Value.int .u8 0, Value.int .u8 0, Value.int .u8 0, Value.int .u8 0, Value.int .u8 0, Value.int .u8 0, Value.int .u8 0, Value.int .u8 0, Value.int .u8 0, Value.int .u8 0, Value.int .u8 0, Value.int .u8 0, Value.int .u8 0, Value.int .u8 0, Value.int .u8 0, Value.int .u8 0, Value.int .u8 0] : Array Value) = idC zero32 := rfl

set_option maxRecDepth 100000 in
set_option maxHeartbeats 1000000 in
theorem readID_any {w : World} {r g : Nat} {xs : List Int} {pl f : Nat} (R : Rdr w r g xs pl f) (y : Took) (hy : Hid (y = takeL xs pl f 3 32 0)) :
    Calls Tryd.prog 60 #[.pointer (some ⟨r, 0, none⟩)] w fun e w' => e = .returned (.agg (idC (idOf y.text))) ∧ Rdr w' r g xs y.pl y.f ∧ Kept [r] w w' := by
  obtain ⟨wz, hwz⟩ : ∃ x, x = (w.alloc (.cells (idC zero32) 25)).alloc (.cells (idC zero32) 25) := ⟨_, rfl⟩
  have HKz : Hid (Kept [] w wz) := by rw [hwz]; exact ((Kept.refl _ _).alloc _).alloc _
  have hzs : wz.heap.size = w.heap.size + 2 := by rw [hwz, World.size_alloc, World.size_alloc]
  have HZ0 : Hid (wz.heap[w.heap.size]? = some (.cells (idC zero32) 25 (0, 0))) := by
    rw [hwz]; exact (Below.heap_alloc _ _ _ (by rw [World.size_alloc]; omega)).trans (heap_alloc_new w _)
  have HZ1 : Hid (wz.heap[w.heap.size + 1]? = some (.cells (idC zero32) 25 (0, 0))) := by
    have h := heap_alloc_new (w.alloc (.cells (idC zero32) 25)) (.cells (idC zero32) 25)
    rw [World.size_alloc] at h
    rw [hwz]; exact h
  have HR : Hid (Rdr wz.drew r g xs pl f) := R.kept HKz.out.drew (by simp) (by simp)
  have hcall : Calls Tryd.prog 43 #[.pointer (some ⟨r, 0, none⟩), .int .i64 32] wz.drew fun e w' =>
      ∃ q, e = .returned (.slice (some ⟨q, 0, none⟩) y.text.length y.text.length) ∧ w'.heap[q]? = some (.cells (y.text.map (Value.int .u8)).toArray 5 (0, 0)) ∧ wz.drew.heap.size ≤ q ∧ Rdr w' r g xs y.pl y.f ∧ Kept [r] wz.drew w' := Raw_any HR.out 32 (by decide) y hy
  have hln : y.text.length ≤ 32 := by rw [hy.out]; exact raw32_len _ _ _
  have hrl := lt_of_block R.blk
  have hgl := lt_of_block R.row
  clear R HR hy
  go_enter Tryd.func60, Tryd.ntmps60
  go_wp2_with fail
  rw [zero_lit32, ← hwz]
  clear hwz
  have hsl : ∀ W, (Instr.sliceAt 25 (.pointer (some ⟨w.heap.size + 1, 0, none⟩)) none none none).run Tryd.prog W = .ok (.slice (some ⟨w.heap.size + 1, 0, none⟩) 32 32) W := fun W => slice_all32 _ W
  have HSP : Hid ((splice (zero32.map (Value.int .u8)) 0 (y.text.map (Value.int .u8))).toArray = idC (idOf y.text)) := by
    have h : (splice (zero32.map (Value.int .u8)) 0 (y.text.map (Value.int .u8))).toArray = idC (idOf y.text) := by
      unfold splice idC idOf
      rw [List.map_append, List.map_drop]
      simp
    exact h
  have hl1 : (y.text.map (Value.int .u8)).length = Nat.min y.text.length 32 := by rw [List.length_map]; exact (Nat.min_eq_left hln).symm
  have hl2 : 0 + (y.text.map (Value.int .u8)).length ≤ (zero32.map (Value.int .u8)).length := by
    rw [List.length_map, List.length_map, Nat.zero_add]; exact hln
  have h1c := map_oneCell y.text
  have hin : (idOf y.text).length = 32 := by
    unfold idOf
    rw [List.length_append, List.length_drop]
    show y.text.length + (32 - y.text.length) = 32
    omega
  have hsi : (Tryd.prog.info? 25).map (·.size) = some (idC (idOf y.text)).size := by rw [idC_size hin]; exact Tryd.infoID
  have hai : (idC (idOf y.text)).all (·.oneCell') = true := all_oneCell_toArray (map_oneCell _)
  have hzi : (idC zero32).size = (idC (idOf y.text)).size := by rw [idC_size hin]; rfl
  go_region_law (first
    | (go_simp; go_at_call 43; refine hcall.mono ?_; rintro e w1 ⟨q, rfl, hq, hqs, hr1, hk1⟩
       have HG1 : w1.heap[w.heap.size + 1]? = some (.cells (zero32.map (Value.int .u8)).toArray 25 (0, 0)) := hk1.heap (show wz.drew.heap[w.heap.size + 1]? = _ from HZ1.out) (by simp; omega)
       have HG0 : Hid (w1.heap[w.heap.size]? = some (.cells (idC zero32) 25 (0, 0))) := hk1.heap (show wz.drew.heap[w.heap.size]? = _ from HZ0.out) (by simp; omega)
       have HP1 : 0 < (y.text.map (Value.int .u8)).length → (some (⟨w.heap.size + 1, 0, none⟩ : Addr)) = some ⟨w.heap.size + 1, 0, none⟩ ∧ ∃ ad, (some (⟨q, 0, none⟩ : Addr)) = some ad ∧ ∀ j v, (y.text.map (Value.int .u8))[j]? = some v → w1.cell? (ad.add j) = some v := fun _ => ⟨rfl, _, rfl, fun j v hj => by
         rw [Addr.add_mid, Nat.zero_add, cell_of_row _ _ _ _ _ _ hq, List.getElem?_toArray]; exact hj⟩
       have HR1 : Hid _ := hr1
       have HK1 : Hid (Kept [r] w w1) := (HKz.out.drew.more (by simp)).then hk1
       clear hr1 hk1 hq hqs)
    | (refine step_copy_splice rfl (.tmp 4) (.tmp 6) 22 22 rfl 5 Tryd.underlying22 Tryd.size_u8 (some ⟨w.heap.size + 1, 0, none⟩) (some ⟨q, 0, none⟩) 32 32 y.text.length y.text.length rfl rfl (w.heap.size + 1) 0 (zero32.map (Value.int .u8)) 25 HG1 (y.text.map (Value.int .u8)) hl1 HP1 hl2 h1c (w.heap.size + 1) w1 (Below.refl _ _) (Nat.le_refl _) ?_; intro w2 hg2 hb2
       have HS2 : Hid (w2.heap[w.heap.size + 1]? = some (.cells (idC (idOf y.text)) 25 (0, 0))) := by
         have h := hg2.out
         rw [HSP.out] at h
         exact h
       have HS0 : Hid (w2.heap[w.heap.size]? = some (.cells (idC zero32) 25 (0, 0))) := (hb2.block _ (by omega)).trans HG0.out
       have HR2 : Hid (Rdr w2 r g xs y.pl y.f) := HR1.out.below hb2 (by omega) (by omega)
       have HK2 : Hid (Kept [r] w w2) := kept_below HK1.out hb2 (by omega)
       clear hg2 hb2 HG1 HP1))
  generalize hic : idC (idOf y.text) = ic at *
  have HIC : Hid (idC (idOf y.text) = ic) := hic
  clear hic
  go_wp2_with (first
    | (refine wpList_load_row (by rfl) 25 (.tmp 3) (by rfl) (w.heap.size + 1) (by rfl) 25 ic (0, 0) _ HS2.out Tryd.underlying25 rfl hsi ?_)
    | (refine wpList_store_row (by rfl) 25 (.tmp 2) (.tmp 8) (by rfl) w.heap.size ic (by rfl) (by rfl) 25 _ HS0.out hsi hzi hai ?_))
  refine bodyPost_ret (v := .agg ic) ?_ rfl ⟨by rw [HIC.out], ?_, ?_⟩
  · rw [results_cell1 rfl]
    have hld := run_loadVar_row (P := Tryd.prog) (w2.setRow w.heap.size ic) w.heap.size 25 25 ic (0, 0) _ (setRow_heap _ _ _ _ _ _ HS0.out) Tryd.underlying25 rfl hsi
    exact hld
  · exact HR2.out.below (below_setRow (Below.refl w.heap.size w2) (Nat.le_refl _) ic) hrl hgl
  · exact kept_below HK2.out (below_setRow (Below.refl w.heap.size w2) (Nat.le_refl _) ic) (Nat.le_refl _)

set_option maxHeartbeats 400000 in
theorem readText_any {w : World} {r g : Nat} {xs : List Int} {pl f : Nat} (R : Rdr w r g xs pl f) (most : Int) (h0 : 0 ≤ most) (hm : most ≤ 9223372036854775807) (y : Took) (hy : Hid (y = takeL xs pl f 2 0 most)) :
    Calls Tryd.prog 59 #[.pointer (some ⟨r, 0, none⟩), .int .i64 most] w fun e w' => e = .returned (.string (strOfNums y.text)) ∧ Rdr w' r g xs y.pl y.f ∧ Kept [r] w w' := by
  have hcall := Bytes_any R most hm y (by rw [show max most 0 = most by omega]; exact hy)
  clear R hy
  go_enter Tryd.func59, Tryd.ntmps59
  go_wp2_with (first
    | (go_at_call 67; refine hcall.mono ?_; rintro e w1 ⟨q, rfl, hq, hqs, hr1, hk1⟩
       have hconv := (row_bytes' hq).conv
       have HR1 : Hid _ := hr1
       have HK1 : Hid _ := hk1
       clear hq hr1 hk1))
  go_ret
  exact ⟨rfl, HR1.out, HK1.out⟩

/-- A text turned into bytes. -/
theorem conv_text (w : World) (xs : List Int) (ho : Octs xs) : ∃ cap w1, (convert 9 22 (.string (strOfNums xs))).run Tryd.prog w = .ok (.slice (some ⟨w.heap.size, 0, none⟩) xs.length cap) w1 ∧ BytesAt w1 (.slice (some ⟨w.heap.size, 0, none⟩) xs.length cap) xs ∧ Kept [] w w1 := by
  have h := run_bytes_of_string (P := Tryd.prog) w 9 22 5 (strOfNums xs) Tryd.underlying9 Tryd.underlying22 Tryd.underlying5
  rw [strOfNums_size] at h
  refine ⟨_, _, h, ⟨_, _, rfl, ?_, fun e => (by cases e), fun _ => ⟨w.heap.size, 0, rfl, fun i u hu => ?_⟩⟩, (Kept.refl [] w).drew.alloc _⟩
  · exact grownCap_ge w _ _ _
  · have hi : i < xs.length := (List.getElem?_eq_some_iff.1 hu).1
    have hr := ho u (List.mem_of_getElem? hu)
    refine (World.cell?_alloc_mark w.drew _ _ _ _).trans ?_
    rw [Nat.zero_add]
    unfold bytesRow
    rw [Array.getElem?_append_left (by rw [Array.size_map]; show i < (strOfNums xs).size; rw [strOfNums_size]; exact hi), Array.getElem?_map, ← Array.getElem?_toList, strOfNums_data, List.getElem?_map, hu]
    simp
    omega

set_option maxHeartbeats 400000 in
theorem writeText_any {w : World} {wb B : Nat} {zs : List Int} {S : List Nat} (h : WAt w wb B zs S) (hBw : B ≤ w.heap.size) (xs : List Int) (ho : Octs xs) (hm : zs.length + 10 + xs.length ≤ 140737488355328) :
    Calls Tryd.prog 105 #[.pointer (some ⟨wb, 0, none⟩), .string (strOfNums xs)] w fun e w' => e = .returned (.tuple #[]) ∧ Wrote w w' wb B (zs ++ varB xs.length ++ xs) S := by
  obtain ⟨cap, w1, hrun, hb, hk⟩ := conv_text w xs ho
  have hlt := h.lt
  have hcall := WBytes_any (h.kept hk (by simp)) (Nat.le_trans hBw hk.size) _ xs hb (fun _ b hb' hs => by
    cases hb'
    exact absurd (hlt _ hs).2 (Nat.lt_irrefl _)) ho hm
  have HK : Hid (Kept [] w w1) := hk
  clear h hb hk hlt
  go_enter Tryd.func105, Tryd.ntmps105
  go_wp2_with (go_at_call 107; refine hcall.mono ?_; rintro e w2 ⟨rfl, hw2⟩)
  go_end0
  exact ⟨rfl, Wrote.trans (HK.out.more (by simp)) (fun _ hx => Or.inl hx) hw2⟩
end Go.Proofs.YtnfbiemmdaenpaaDoor
