/-
  WALKS: object.readID, readText, writeText.
  PLAIN MATHEMATICS, continued: writing and reading are inverse: one way to write what can be read. No Go text is named here.
  The shortest form of a number, byte by byte. Pure.
  WALKS: what satchelref3 lays: number, text, big, raw.
-/
import Derived.Test.YtfcoeinhfdbcgaaGreatDoorSha2
import Derived.Test.YtfcoeinhfdbcgaaGreatDoorRows0
import Derived.Test.YtfcoeinhfdbcgaaGreatDoorWMoreA
import Derived.Deep.RegionLaw
import Derived.Laws.IdiomStrings
import Derived.Test.YtfcoeinhfdbcgaaGreatDoorRs1
import Derived.Deep.OwnRows
namespace Go.Proofs.YtfcoeinhfdbcgaaGreatDoor
open Go.RowKit

theorem results_cell1 {fn : Func} {p : Tmp} {ty : TypeId} (h : fn.results = #[.cell p ty]) (tmps : Array Value) (P : Program) (w : World) :
    (results fn tmps).run P w = ((asAddr (tmps.getD p undef)).run P w).andThen fun a w₁ => (loadVar ty a).run P w₁ := by
  simp only [results, h]
  simp [Sem.run_bind, Result.andThen]
theorem kept_below {S : List Nat} {a w w' : World} {B : Nat} (h : Kept S a w) (hb : Below B w w') (hB : a.heap.size ≤ B) : Kept S a w' :=
  ⟨hb.os.trans h.os, hb.tape.trans h.tape, hb.output.trans h.output, Nat.le_trans h.size hb.size, fun k hk hn => (hb.block k (Nat.lt_of_lt_of_le hk hB)).trans (h.block k hk hn)⟩
theorem Rdr.below {w w' : World} {r g : Nat} {xs : List Int} {pl f B : Nat} (R : Rdr w r g xs pl f) (hb : Below B w w') (h1 : r < B) (h2 : g < B) : Rdr w' r g xs pl f :=
  ⟨(hb.block r h1).trans R.blk, (hb.block g h2).trans R.row, R.ne, R.le, R.small, R.oct⟩
theorem slice_all32 (b : Nat) (W : World) : (Instr.sliceAt 29 (.pointer (some ⟨b, 0, none⟩)) none none none).run Tryz.prog W = .ok (.slice (some ⟨b, 0, none⟩) 32 32) W := by
  simp [Instr.sliceAt, go_sem, run_underlying Tryz.underlying29]
theorem Tryz.zeroID (W : World) : (zeroValue 29).run Tryz.prog W = .ok (.agg (idC zero32)) W := by kernel_rfl

/-- What an id is made of, if it is read. -/
def idOf (t : List Int) : List Int := t ++ zero32.drop t.length
theorem raw32_len (xs : List Int) (pl f : Nat) : (takeL xs pl f 3 32 0).text.length ≤ 32 := by
  unfold takeL
  split
  · exact Nat.zero_le _
  · split
    · exact Nat.zero_le _
    · simp only [List.length_drop, List.length_take]
      unfold lookL rawL
      simp
      split <;> simp
      omega
theorem zero_lit32 : (#[Value.int .u8 0, Value.int .u8 0, Value.int .u8 0, Value.int .u8 0, Value.int .u8 0, Value.int .u8 0, Value.int .u8 0, Value.int .u8 0, Value.int .u8 0, Value.int .u8 0, Value.int .u8 0, Value.int .u8 0, Value.int .u8 0, Value.int .u8 0, Value.int .u8 0, Value.int .u8 0, Value.int .u8 0, Value.int .u8 0, Value.int .u8 0, Value.int .u8 0, Value.int .u8 0, Value.int .u8 0, Value.int .u8 0, Value.int .u8 0, Value.int .u8 0, Value.int .u8 0, Value.int .u8 0, Value.int .u8 0, Value.int .u8 0, Value.int .u8 0, Value.int .u8 0, Value.int .u8 0] : Array Value) = idC zero32 := rfl

set_option maxRecDepth 100000 in
set_option maxHeartbeats 1000000 in
theorem readID_any {w : World} {r g : Nat} {xs : List Int} {pl f : Nat} (R : Rdr w r g xs pl f) (y : Took) (hy : Hid (y = takeL xs pl f 3 32 0)) :
    Calls Tryz.prog 75 #[.pointer (some ⟨r, 0, none⟩)] w fun e w' => e = .returned (.agg (idC (idOf y.text))) ∧ Rdr w' r g xs y.pl y.f ∧ Kept [r] w w' := by
  obtain ⟨wz, hwz⟩ : ∃ x, x = (w.alloc (.cells (idC zero32) 29)).alloc (.cells (idC zero32) 29) := ⟨_, rfl⟩
  have HKz : Hid (Kept [] w wz) := by rw [hwz]; exact ((Kept.refl _ _).alloc _).alloc _
  have hzs : wz.heap.size = w.heap.size + 2 := by rw [hwz, World.size_alloc, World.size_alloc]
  have HZ0 : Hid (wz.heap[w.heap.size]? = some (.cells (idC zero32) 29 (0, 0))) := by
    rw [hwz]; exact (Below.heap_alloc _ _ _ (by rw [World.size_alloc]; omega)).trans (heap_alloc_new w _)
  have HZ1 : Hid (wz.heap[w.heap.size + 1]? = some (.cells (idC zero32) 29 (0, 0))) := by
    have h := heap_alloc_new (w.alloc (.cells (idC zero32) 29)) (.cells (idC zero32) 29)
    rw [World.size_alloc] at h
    rw [hwz]; exact h
  have HR : Hid (Rdr wz.drew r g xs pl f) := R.kept HKz.out.drew (by simp) (by simp)
  have hcall : Calls Tryz.prog 45 #[.pointer (some ⟨r, 0, none⟩), .int .i64 32] wz.drew fun e w' =>
      ∃ q, e = .returned (.slice (some ⟨q, 0, none⟩) y.text.length y.text.length) ∧ w'.heap[q]? = some (.cells (y.text.map (Value.int .u8)).toArray 5 (0, 0)) ∧ wz.drew.heap.size ≤ q ∧ Rdr w' r g xs y.pl y.f ∧ Kept [r] wz.drew w' := Raw_any HR.out 32 (by decide) y hy
  have hln : y.text.length ≤ 32 := by rw [hy.out]; exact raw32_len _ _ _
  have hrl := lt_of_block R.blk
  have hgl := lt_of_block R.row
  clear R HR hy
  go_enter Tryz.func75, Tryz.ntmps75
  go_wp2_with fail
  rw [zero_lit32, ← hwz]
  clear hwz
  have hsl : ∀ W, (Instr.sliceAt 29 (.pointer (some ⟨w.heap.size + 1, 0, none⟩)) none none none).run Tryz.prog W = .ok (.slice (some ⟨w.heap.size + 1, 0, none⟩) 32 32) W := fun W => slice_all32 _ W
  have HSP : Hid ((splice (zero32.map (Value.int .u8)) 0 (y.text.map (Value.int .u8))).toArray = idC (idOf y.text)) := by
    have h : (splice (zero32.map (Value.int .u8)) 0 (y.text.map (Value.int .u8))).toArray = idC (idOf y.text) := by
      unfold splice idC idOf
      rw [List.map_append, List.map_drop]
      simp
    exact h
  have hl1 : (y.text.map (Value.int .u8)).length = Nat.min y.text.length 32 := by rw [List.length_map]; exact (Nat.min_eq_left hln).symm
  have hl2 : 0 + (y.text.map (Value.int .u8)).length ≤ (zero32.map (Value.int .u8)).length := by
    rw [List.length_map, List.length_map, Nat.zero_add]; exact hln
  have h1c := map_oneCell y.text
  have hin : (idOf y.text).length = 32 := by
    unfold idOf
    rw [List.length_append, List.length_drop]
    show y.text.length + (32 - y.text.length) = 32
    omega
  have hsi : (Tryz.prog.info? 29).map (·.size) = some (idC (idOf y.text)).size := by rw [idC_size hin]; exact Tryz.infoID
  have hai : (idC (idOf y.text)).all (·.oneCell') = true := all_oneCell_toArray (map_oneCell _)
  have hzi : (idC zero32).size = (idC (idOf y.text)).size := by rw [idC_size hin]; rfl
  go_region_law (first
    | (go_simp; go_at_call 45; refine hcall.mono ?_; rintro e w1 ⟨q, rfl, hq, hqs, hr1, hk1⟩
       have HG1 : w1.heap[w.heap.size + 1]? = some (.cells (zero32.map (Value.int .u8)).toArray 29 (0, 0)) := hk1.heap (show wz.drew.heap[w.heap.size + 1]? = _ from HZ1.out) (by simp; omega)
       have HG0 : Hid (w1.heap[w.heap.size]? = some (.cells (idC zero32) 29 (0, 0))) := hk1.heap (show wz.drew.heap[w.heap.size]? = _ from HZ0.out) (by simp; omega)
       have HP1 : 0 < (y.text.map (Value.int .u8)).length → (some (⟨w.heap.size + 1, 0, none⟩ : Addr)) = some ⟨w.heap.size + 1, 0, none⟩ ∧ ∃ ad, (some (⟨q, 0, none⟩ : Addr)) = some ad ∧ ∀ j v, (y.text.map (Value.int .u8))[j]? = some v → w1.cell? (ad.add j) = some v := fun _ => ⟨rfl, _, rfl, fun j v hj => by
         rw [Addr.add_mid, Nat.zero_add, cell_of_row _ _ _ _ _ _ hq, List.getElem?_toArray]; exact hj⟩
       have HR1 : Hid _ := hr1
       have HK1 : Hid (Kept [r] w w1) := (HKz.out.drew.more (by simp)).then hk1
       clear hr1 hk1 hq hqs)
    | (refine step_copy_splice rfl (.tmp 4) (.tmp 6) 26 26 rfl 5 Tryz.underlying26 Tryz.size_u8 (some ⟨w.heap.size + 1, 0, none⟩) (some ⟨q, 0, none⟩) 32 32 y.text.length y.text.length rfl rfl (w.heap.size + 1) 0 (zero32.map (Value.int .u8)) 29 HG1 (y.text.map (Value.int .u8)) hl1 HP1 hl2 h1c (w.heap.size + 1) w1 (Below.refl _ _) (Nat.le_refl _) ?_; intro w2 hg2 hb2
       have HS2 : Hid (w2.heap[w.heap.size + 1]? = some (.cells (idC (idOf y.text)) 29 (0, 0))) := by
         have h := hg2.out
         rw [HSP.out] at h
         exact h
       have HS0 : Hid (w2.heap[w.heap.size]? = some (.cells (idC zero32) 29 (0, 0))) := (hb2.block _ (by omega)).trans HG0.out
       have HR2 : Hid (Rdr w2 r g xs y.pl y.f) := HR1.out.below hb2 (by omega) (by omega)
       have HK2 : Hid (Kept [r] w w2) := kept_below HK1.out hb2 (by omega)
       clear hg2 hb2 HG1 HP1))
  generalize hic : idC (idOf y.text) = ic at *
  have HIC : Hid (idC (idOf y.text) = ic) := hic
  clear hic
  go_wp2_with (first
    | (refine wpList_load_row (by rfl) 29 (.tmp 3) (by rfl) (w.heap.size + 1) (by rfl) 29 ic (0, 0) _ HS2.out Tryz.underlying29 rfl hsi ?_)
    | (refine wpList_store_row (by rfl) 29 (.tmp 2) (.tmp 8) (by rfl) w.heap.size ic (by rfl) (by rfl) 29 _ HS0.out hsi hzi hai ?_))
  refine bodyPost_ret (v := .agg ic) ?_ rfl ⟨by rw [HIC.out], ?_, ?_⟩
  · rw [results_cell1 rfl]
    have hld := run_loadVar_row (P := Tryz.prog) (w2.setRow w.heap.size ic) w.heap.size 29 29 ic (0, 0) _ (setRow_heap _ _ _ _ _ _ HS0.out) Tryz.underlying29 rfl hsi
    exact hld
  · exact HR2.out.below (below_setRow (Below.refl w.heap.size w2) (Nat.le_refl _) ic) hrl hgl
  · exact kept_below HK2.out (below_setRow (Below.refl w.heap.size w2) (Nat.le_refl _) ic) (Nat.le_refl _)

set_option maxHeartbeats 400000 in
theorem readText_any {w : World} {r g : Nat} {xs : List Int} {pl f : Nat} (R : Rdr w r g xs pl f) (most : Int) (h0 : 0 ≤ most) (hm : most ≤ 9223372036854775807) (y : Took) (hy : Hid (y = takeL xs pl f 2 0 most)) :
    Calls Tryz.prog 74 #[.pointer (some ⟨r, 0, none⟩), .int .i64 most] w fun e w' => e = .returned (.string (strOfNums y.text)) ∧ Rdr w' r g xs y.pl y.f ∧ Kept [r] w w' := by
  have hcall := Bytes_any R most hm y (by rw [show max most 0 = most by omega]; exact hy)
  clear R hy
  go_enter Tryz.func74, Tryz.ntmps74
  go_wp2_with (first
    | (go_at_call 84; refine hcall.mono ?_; rintro e w1 ⟨q, rfl, hq, hqs, hr1, hk1⟩
       have hconv := (row_bytes' hq).conv
       have HR1 : Hid _ := hr1
       have HK1 : Hid _ := hk1
       clear hq hr1 hk1))
  go_ret
  exact ⟨rfl, HR1.out, HK1.out⟩

/-- A text turned into bytes. -/
theorem conv_text (w : World) (xs : List Int) (ho : Octs xs) : ∃ cap w1, (convert 9 26 (.string (strOfNums xs))).run Tryz.prog w = .ok (.slice (some ⟨w.heap.size, 0, none⟩) xs.length cap) w1 ∧ BytesAt w1 (.slice (some ⟨w.heap.size, 0, none⟩) xs.length cap) xs ∧ Kept [] w w1 := by
  have h := run_bytes_of_string (P := Tryz.prog) w 9 26 5 (strOfNums xs) Tryz.underlying9 Tryz.underlying26 Tryz.underlying5
  rw [strOfNums_size] at h
  refine ⟨_, _, h, ⟨_, _, rfl, ?_, fun e => (by cases e), fun _ => ⟨w.heap.size, 0, rfl, fun i u hu => ?_⟩⟩, (Kept.refl [] w).drew.alloc _⟩
  · exact grownCap_ge w _ _ _
  · have hi : i < xs.length := (List.getElem?_eq_some_iff.1 hu).1
    have hr := ho u (List.mem_of_getElem? hu)
    refine (World.cell?_alloc_mark w.drew _ _ _ _).trans ?_
    rw [Nat.zero_add]
    unfold bytesRow
    rw [Array.getElem?_append_left (by rw [Array.size_map]; show i < (strOfNums xs).size; rw [strOfNums_size]; exact hi), Array.getElem?_map, ← Array.getElem?_toList, strOfNums_data, List.getElem?_map, hu]
    simp
    omega

set_option maxHeartbeats 400000 in
theorem writeText_any {w : World} {wb B : Nat} {zs : List Int} {S : List Nat} (h : WAt w wb B zs S) (hBw : B ≤ w.heap.size) (xs : List Int) (ho : Octs xs) (hm : zs.length + 10 + xs.length ≤ 140737488355328) :
    Calls Tryz.prog 124 #[.pointer (some ⟨wb, 0, none⟩), .string (strOfNums xs)] w fun e w' => e = .returned (.tuple #[]) ∧ Wrote w w' wb B (zs ++ varB xs.length ++ xs) S := by
  obtain ⟨cap, w1, hrun, hb, hk⟩ := conv_text w xs ho
  have hlt := h.lt
  have hcall := WBytes_any (h.kept hk (by simp)) (Nat.le_trans hBw hk.size) _ xs hb (fun _ b hb' hs => by
    cases hb'
    exact absurd (hlt _ hs).2 (Nat.lt_irrefl _)) ho hm
  have HK : Hid (Kept [] w w1) := hk
  clear h hb hk hlt
  go_enter Tryz.func124, Tryz.ntmps124
  go_wp2_with (go_at_call 126; refine hcall.mono ?_; rintro e w2 ⟨rfl, hw2⟩)
  go_end0
  exact ⟨rfl, Wrote.trans (HK.out.more (by simp)) (fun _ hx => Or.inl hx) hw2⟩
end Go.Proofs.YtfcoeinhfdbcgaaGreatDoor

namespace Go.Proofs.YtfcoeinhfdbcgaaGreatDoor
open Go.RowKit

theorem fixedB_snoc (n : Int) (s : Nat) : fixedB n (s + 1) = fixedB (n / 256) s ++ [n % 256] := by
  unfold fixedB
  rw [List.range_succ, List.map_append]
  congr 1
  · refine List.map_congr_left fun i hi => ?_
    have hi := List.mem_range.1 hi
    rw [show s + 1 - 1 - i = (s - 1 - i) + 1 by omega, Int.pow_succ, Int.mul_comm, ← Int.ediv_ediv_of_nonneg (by decide)]
  · simp
/-- What is read as a number of so many bytes is written so. -/
theorem fixedB_be : ∀ (s : Nat) (l : List Int), l.length = s → Octs l → fixedB (be l) s = l := by
  intro s
  induction s with
  | zero => intro l hl _; rw [List.eq_nil_of_length_eq_zero hl]; rfl
  | succ s ih =>
    intro l hl ho
    rcases List.eq_nil_or_concat l with rfl | ⟨l', x, rfl⟩
    · simp at hl
    · rw [List.concat_eq_append] at *
      have hx := ho x (by simp)
      have hl' : l'.length = s := by simpa using hl
      rw [fixedB_snoc, be_snoc, show (be l' * 256 + x) / 256 = be l' by omega, show (be l' * 256 + x) % 256 = x by omega, ih l' hl' (fun u hu => ho u (by simp [hu]))]

theorem pow_pos128 (k : Nat) : (0 : Int) < 128 ^ k := Int.pow_pos (by decide)
theorem pow_mono128 {a b : Nat} (h : a ≤ b) : (128 : Int) ^ a ≤ 128 ^ b := by
  rw [pow128, pow128]
  exact Int.ofNat_le.2 (Nat.pow_le_pow_right (by decide) (by omega))
theorem lastOf_is (n : Int) (k : Nat) (h0 : 0 ≤ n) (h1 : n ≤ 18446744073709551615) (hk1 : n < 128 ^ (k + 1)) (hk0 : 1 ≤ k → 128 ^ k ≤ n) : lastOf n = k := by
  obtain ⟨g1, g2, _⟩ := lastOf_spec n h0 h1
  rcases Nat.lt_trichotomy (lastOf n) k with h | h | h
  · have := pow_mono128 (show lastOf n + 1 ≤ k by omega)
    have := hk0 (by omega)
    omega
  · exact h
  · have := pow_mono128 (show k + 1 ≤ lastOf n by omega)
    have := g2 (by omega)
    omega
theorem add_div128 (n s : Int) (k : Nat) (h0 : 0 ≤ n) (h1 : n < 128 ^ k) : (n + s * 128 ^ k) / 128 ^ k = s := by
  have hp := pow_pos128 k
  rw [Int.add_mul_ediv_right _ _ (by omega), Int.ediv_eq_zero_of_lt h0 h1]
  omega

/-- While a number is gathered: what is gathered so far, whatever comes behind, is written as what was read. -/
def Gath (n : Int) (i : Nat) (pre : List Int) : Prop := ∀ t : Int, varHead (n + t * 128 ^ i) i = pre

theorem gath_step {n : Int} {i : Nat} {pre : List Int} (h : Gath n i pre) (h0 : 0 ≤ n) (h1 : n < 128 ^ i) (x : Int) (hx0 : 128 ≤ x) (hx1 : x ≤ 255) : Gath (n + (x - 128) * 128 ^ i) (i + 1) (pre ++ [x]) := by
  intro t
  have e : n + (x - 128) * 128 ^ i + t * 128 ^ (i + 1) = n + (x - 128 + t * 128) * 128 ^ i := by
    rw [Int.pow_succ, Int.add_mul, Int.mul_assoc t 128, Int.mul_comm 128 (128 ^ i), Int.add_assoc]
  rw [e, varHead_succ, h, add_div128 _ _ _ h0 h1]
  congr 2
  omega

theorem varFrom_one (most : Int) : ∀ (fuel i : Nat) (n : Int) (l pre : List Int), fuel + i = 10 → 0 ≤ n → n < 128 ^ i → Gath n i pre → Octs l → most ≤ 18446744073709551615 → pre.length = i →
    (varFrom most fuel i n l).f = 0 → varB (varFrom most fuel i n l).n = (pre ++ l).take (varFrom most fuel i n l).to := by
  intro fuel
  induction fuel with
  | zero => intro i n l pre _ _ _ _ _ _ _ hf; simp [varFrom] at hf
  | succ fuel ih =>
    intro i n l pre hfi hn0 hn1 hg ho hm hp hf
    match l with
    | [] => simp [varFrom] at hf
    | x :: r =>
      have hx := ho x (by simp)
      unfold varFrom at hf ⊢
      split at hf
      · simp at hf
      · rename_i h9
        rw [if_neg h9]
        split at hf
        · rename_i h128
          rw [if_pos h128]
          have := ih (i + 1) (n + (x - 128) * 128 ^ i) r (pre ++ [x]) (by omega) (var_ge i n _ hn0 (by omega)) (var_lt i n _ hn1 (by omega)) (gath_step hg hn0 hn1 x h128 hx.2) (fun u hu => ho u (by simp [hu])) hm (by simp [hp]) hf
          rw [this, List.append_assoc]
          rfl
        · rename_i h128
          rw [if_neg h128]
          split at hf
          · simp at hf
          · rename_i hz
            rw [if_neg hz]
            split at hf
            · simp at hf
            · rename_i hmx
              rw [if_neg hmx]
              dsimp only
              have hN0 := var_ge i n x hn0 hx.1
              have hN1 := var_lt i n x hn1 (by omega)
              have hlast : lastOf (n + x * 128 ^ i) = i := by
                refine lastOf_is _ i hN0 (by omega) hN1 fun hi => ?_
                have hx1 : 1 ≤ x := by omega
                have hpp := pow_pos128 i
                have := Int.mul_le_mul_of_nonneg_right hx1 (Int.le_of_lt hpp)
                omega
              unfold varB
              rw [hlast, hg x, add_div128 _ _ _ hn0 hn1, List.take_append, hp]
              rw [show i + 1 - i = 1 by omega, List.take_of_length_le (by omega)]
              rfl
/-- What is read as a number in its shortest form is written so. -/
theorem varL_one (ys : List Int) (most : Int) (ho : Octs ys) (hm : most ≤ 18446744073709551615) (hf : (varL ys most).f = 0) : varB (varL ys most).n = ys.take (varL ys most).to :=
  varFrom_one most 10 0 0 ys [] rfl (Int.le_refl _) (by decide) (fun t => by simp [varHead]) ho hm rfl hf

end Go.Proofs.YtfcoeinhfdbcgaaGreatDoor

namespace Go.Proofs.YtfcoeinhfdbcgaaGreatDoor
open Go.RowKit

theorem varB_small (n : Int) (h0 : 0 ≤ n) (h1 : n < 128) : varB n = [n] := by
  have : lastOf n = 0 := lastOf_is n 0 h0 (by omega) (by simpa using h1) (fun h => absurd h (by decide))
  simp [varB, this, varHead]
theorem varHead_cons (n : Int) (k : Nat) : varHead n (k + 1) = (128 + n % 128) :: varHead (n / 128) k := by
  induction k with
  | zero => simp [varHead]; omega
  | succ k ih =>
    rw [varHead_succ, ih, List.cons_append, varHead_succ (n / 128) k]
    congr 2
    rw [Int.ediv_ediv_of_nonneg (by decide), Int.pow_succ, Int.mul_comm]
theorem varB_big (n : Int) (h0 : 128 ≤ n) (h1 : n ≤ 18446744073709551615) : varB n = (128 + n % 128) :: varB (n / 128) := by
  have hs := lastOf_spec (n / 128) (by omega) (by omega)
  obtain ⟨k, hk⟩ : ∃ k, k = lastOf (n / 128) := ⟨_, rfl⟩
  rw [← hk] at hs
  have hp := pow_pos128 k
  have hl : lastOf n = k + 1 := by
    refine lastOf_is n (k + 1) (by omega) h1 ?_ fun _ => ?_
    · rw [Int.pow_succ]; generalize (128 : Int) ^ (k + 1) = P at *; omega
    · rw [Int.pow_succ]
      by_cases h : 1 ≤ k
      · have := hs.2.1 h; generalize (128 : Int) ^ k = P at *; omega
      · obtain rfl : k = 0 := by omega
        simpa using h0
  rw [varB, hl, varHead_cons, varB, ← hk, List.cons_append, Int.pow_succ, Int.mul_comm, ← Int.ediv_ediv_of_nonneg (by decide : (0 : Int) ≤ 128)]

end Go.Proofs.YtfcoeinhfdbcgaaGreatDoor

namespace Go.Proofs.YtfcoeinhfdbcgaaGreatDoor
open Go.RowKit

theorem one_byte (w : World) (x : Int) : BytesAt (w.alloc (.cells #[.int .u8 x] 5)) (.slice (some ⟨w.heap.size, 0, none⟩) 1 1) [x] := (OwnB.one x).bytes

set_option maxHeartbeats 2000000 in
/-- satchelref3.number: the shortest form, in new memory. -/
theorem R3number_any (n : Int) (w : World) (h0 : 0 ≤ n) (h1 : n ≤ 9223372036854775807) :
    Calls Tryz.prog 56 #[.int .i64 n] w fun e w' => ∃ v, e = .returned v ∧ OwnB w' w.heap.size v (varB n) ∧ Kept [] w w' := by
  have hlen := varB_len n h0 (by omega)
  go_enter Tryz.func56, Tryz.ntmps56
  go_wp2
  go_loopw [0, 3] (fun s0 s3 wr => ∃ (m : Int) (l : List Int) (u : Value), u = s3 ∧ s0 = .int .i64 m ∧ 0 ≤ m ∧ m ≤ 9223372036854775807 ∧ Hid (varB n = l ++ varB m) ∧ Hid (OwnB wr w.heap.size u l) ∧ Hid (Kept [] w wr)) (fun s0 _ _ => (intOf s0).toNat)
  case atStart => exact ⟨n, [], _, rfl, rfl, h0, h1, rfl, World.ownsRow_nil _ _ _ _, Kept.refl _ _⟩
  case round =>
    obtain ⟨m, l, u, rfl, rfl, hm0, hm1, HV, HO, HK⟩ := hrel
    have hl : l.length ≤ 10 := by
      have := congrArg List.length HV.out
      rw [List.length_append] at this
      omega
    have HB : Hid (∀ x, u.ownBlock = some x → w.heap.size ≤ x) := fun x hx => (World.ownsRow.lt HO.out x hx).1
    have hsz : w.heap.size ≤ wr.heap.size := HK.out.size
    by_cases hs : m < 128
    · have t1 : decide ((128 : Int) ≤ m) = false := by simp; omega
      have r1 : IntKind.u8.wrap m = m := by rw [IntKind.wrap_u8']; omega
      have HO1 : Hid (OwnB (wr.alloc (.cells #[.int .u8 m] 5)) w.heap.size u l) := OwnB.kept HO.out ((Kept.refl [] wr).alloc _) (by simp)
      have HK1 : Hid (Kept [] w (wr.alloc (.cells #[.int .u8 m] 5))) := HK.out.alloc _
      go_wp2_with (at_builtin; refine wpList_append_bytes rfl (.tmp 15) (.tmp 18) rfl rfl HO1.out rfl (one_byte wr m) (by simp; omega) (by simp; omega) ?_; intro v2 w2 ha2
                   have HO2 : Hid (OwnB w2 w.heap.size v2 (l ++ [m])) := ha2.own
                   have HK2 : Hid (Kept [] w w2) := ha2.keep w [] HK1.out (fun k hk => Or.inr (HB.out k hk))
                   clear ha2)
      go_ret
      refine ⟨_, rfl, ?_, HK2.out⟩
      rw [HV.out, varB_small m hm0 hs]
      exact HO2.out
    · have t1 : decide ((128 : Int) ≤ m) = true := by simp; omega
      have r1 : Int.tmod m 128 = m % 128 := Int.tmod_eq_emod_of_nonneg hm0
      have r2 : IntKind.u8.wrap (128 + m % 128) = 128 + m % 128 := by rw [IntKind.wrap_u8']; omega
      have r3 : Int.tdiv m 128 = m / 128 := Int.tdiv_eq_ediv_of_nonneg hm0
      have r4 : IntKind.i64.wrap (128 + m % 128) = 128 + m % 128 := by rw [IntKind.wrap_i64]; omega
      have HO1 : Hid (OwnB (wr.alloc (.cells #[.int .u8 (128 + m % 128)] 5)) w.heap.size u l) := OwnB.kept HO.out ((Kept.refl [] wr).alloc _) (by simp)
      have HK1 : Hid (Kept [] w (wr.alloc (.cells #[.int .u8 (128 + m % 128)] 5))) := HK.out.alloc _
      go_wp2_with (at_builtin; refine wpList_append_bytes rfl (.tmp 6) (.tmp 11) rfl rfl HO1.out rfl (one_byte wr (128 + m % 128)) (by simp; omega) (by simp; omega) ?_; intro v2 w2 ha2
                   have HO2 : Hid (OwnB w2 w.heap.size v2 (l ++ [128 + m % 128])) := ha2.own
                   have HK2 : Hid (Kept [] w w2) := ha2.keep w [] HK1.out (fun k hk => Or.inr (HB.out k hk))
                   clear ha2)
      go_roundw
      case rel => exact ⟨m / 128, l ++ [128 + m % 128], _, rfl, by go_num, by omega, by omega, by show _ = _; rw [HV.out, varB_big m (by omega) (by omega)]; simp, HO2, HK2⟩
      case measure => simp [intOf]; omega

set_option maxHeartbeats 2000000 in
/-- satchelref3.text: a text with its length ahead, in new memory. -/
theorem R3text_any (xs : List Int) (ho : Octs xs) (hs : xs.length ≤ 140737488355000) (w : World) :
    Calls Tryz.prog 57 #[.string (strOfNums xs)] w fun e w' => ∃ v, e = .returned v ∧ OwnB w' w.heap.size v (varB xs.length ++ xs) ∧ Kept [] w w' := by
  have hsz := strOfNums_size xs
  have hnum := R3number_any (xs.length : Int) w (by omega) (by omega)
  have hvl := varB_len (xs.length : Int) (by omega) (by omega)
  go_enter Tryz.func57, Tryz.ntmps57
  go_wp2_with fail
  go_at_call 56
  refine hnum.mono ?_
  rintro e w1 ⟨v1, rfl, ho1, k1⟩
  obtain ⟨cap, w2, hrun, hb2, k2⟩ := conv_text w1 xs ho
  have HO2 : Hid (OwnB w2 w.heap.size v1 (varB xs.length)) := OwnB.kept ho1 k2 (by simp)
  have HK2 : Hid (Kept [] w w2) := k1.then k2
  have HB2 : Hid _ := hb2
  have HB : Hid (∀ x, v1.ownBlock = some x → w.heap.size ≤ x) := fun x hx => (World.ownsRow.lt ho1 x hx).1
  have hsz2 : w.heap.size ≤ w2.heap.size := HK2.out.size
  clear hnum ho1 k1 hb2 k2
  go_wp2_with (at_builtin; refine wpList_append_bytes rfl (.tmp 7) (.tmp 9) rfl rfl HO2.out rfl HB2.out (by omega) hsz2 ?_; intro v3 w3 ha3
               have HO3 : Hid (OwnB w3 w.heap.size v3 (varB xs.length ++ xs)) := ha3.own
               have HK3 : Hid (Kept [] w w3) := ha3.keep w [] HK2.out (fun k hk => Or.inr (HB.out k hk))
               clear ha3)
  go_ret
  exact ⟨_, rfl, HO3.out, HK3.out⟩

/-- What raw comes to: an id's bytes behind a list. -/
structure Laid (w w' : World) (B : Nat) (v v' : Value) (us : List Int) : Prop where
  own : OwnB w' B v' us
  keep : ∀ (a : World) (S : List Nat), Kept S a w → (∀ k, v.ownBlock = some k → k ∈ S ∨ a.heap.size ≤ k) → Kept S a w'
  at' : ∀ k, v'.ownBlock = some k → v.ownBlock = some k ∨ w.heap.size ≤ k

set_option maxRecDepth 100000 in
set_option maxHeartbeats 2000000 in
theorem R3raw_any {w : World} {B : Nat} {v : Value} {zs : List Int} (hown : OwnB w B v zs) (hB : B ≤ w.heap.size) (id : List Int) (hid : GoodID id) (hz : zs.length ≤ 140737488355000) :
    Calls Tryz.prog 58 #[v, .agg (idC id)] w fun e w' => ∃ v', e = .returned v' ∧ Laid w w' B v v' (zs ++ id) := by
  have HD : Hid (GoodID id) := hid
  have hl32 := hid.1
  have HB0 : Hid ((w.alloc (.cells (idC id) 29)).heap[w.heap.size]? = some (.cells (idC id) 29 (0, 0))) := heap_alloc_new w _
  have HO0 : Hid (OwnB (w.alloc (.cells (idC id) 29)) B v zs) := OwnB.kept hown ((Kept.refl [] w).alloc _) (by simp)
  have HBl : Hid (∀ x, v.ownBlock = some x → x < w.heap.size) := fun x hx => (World.ownsRow.lt hown x hx).2
  have hsz0 : (w.alloc (.cells (idC id) 29)).heap.size = w.heap.size + 1 := World.size_alloc _ _
  clear hown hid
  go_enter Tryz.func58, Tryz.ntmps58
  go_wp2
  go_loopw [0, 5] (fun s0 s5 wr => ∃ (k : Nat) (u : Value), u = s0 ∧ k ≤ 32 ∧ s5 = .int .i64 k ∧ Hid (Laid w wr B v u (zs ++ id.take k)) ∧ Hid (wr.heap[w.heap.size]? = some (.cells (idC id) 29 (0, 0)) ∧ u.ownBlock ≠ some w.heap.size)) (fun _ s5 _ => 32 - (intOf s5).toNat)
  case atStart =>
    refine ⟨0, _, rfl, by omega, rfl, ⟨by simpa using HO0.out, fun a S h hv => h.alloc _, fun k hk => Or.inl hk⟩, HB0.out, fun e => ?_⟩
    have := HBl.out _ e
    omega
  case round =>
    clear HB0 HO0
    obtain ⟨k, u, rfl, hk, rfl, HL, HR⟩ := hrel
    have hbig : w.heap.size < wr.heap.size := lt_of_block HR.out.1
    by_cases hlt : k < 32
    · have t1 : decide ((k : Int) < 32) = true := by simp; omega
      have c1 : wr.cell? ⟨w.heap.size, k, none⟩ = some (.int .u8 (id[k]?.getD 0)) := by
        rw [cell_of_row _ _ _ _ _ _ HR.out.1, idC_get (by omega)]
      have HE : Hid (zs ++ id.take (k + 1) = (zs ++ id.take k) ++ [id[k]?.getD 0]) := by
        show _ = _
        rw [List.take_succ_eq_append_getElem (by omega : k < id.length), List.append_assoc, List.getElem?_eq_getElem (by omega)]
        rfl
      have hln : (zs ++ id.take k).length ≤ zs.length + 32 := by simp; omega
      generalize id[k]?.getD 0 = b at *
      have HO1 : Hid (OwnB (wr.alloc (.cells #[.int .u8 b] 5)) B u (zs ++ id.take k)) := OwnB.kept HL.out.own ((Kept.refl [] wr).alloc _) (by simp)
      have HR1 : Hid ((wr.alloc (.cells #[.int .u8 b] 5)).heap[w.heap.size]? = some (.cells (idC id) 29 (0, 0))) := ((Kept.refl [] wr).alloc _).heap HR.out.1 (by simp)
      go_wp2_with (at_builtin; refine wpList_append_bytes rfl (.tmp 10) (.tmp 14) rfl rfl HO1.out rfl (one_byte wr b) (by simp at hln ⊢; omega) (by simp; omega) ?_; intro v2 w2 ha2
                   have HA2 : Hid (Appended (wr.alloc (.cells #[.int .u8 b] 5)) w2 B u v2 (zs ++ id.take k ++ [b])) := ha2
                   clear ha2)
      go_roundw
      case rel =>
        have hA := HA2.out
        have hLL := HL.out
        refine ⟨k + 1, _, rfl, by omega, by go_num, ⟨by rw [HE.out]; exact hA.own, fun a S h hv => hA.keep a S ((hLL.keep a S h hv).alloc _) (fun x hx => ?_), fun x hx => ?_⟩, ?_, fun e => ?_⟩
        · rcases hLL.at' x hx with h1 | h1
          · exact hv x h1
          · exact Or.inr (Nat.le_trans h.size h1)
        · rcases hA.at' with h1 | h1
          · rw [h1] at hx; exact hLL.at' x hx
          · rw [h1] at hx
            injection hx with hx
            rw [World.size_alloc] at hx
            exact Or.inr (by omega)
        · have hk2 : Kept u.ownBlock.toList (wr.alloc (.cells #[.int .u8 b] 5)) w2 := hA.keep _ _ (Kept.refl _ _) (fun x hx => Or.inl (by simp [hx]))
          exact hk2.heap HR1.out (by simpa using HR.out.2)
        · rcases hA.at' with h1 | h1
          · rw [h1] at e; exact HR.out.2 e
          · rw [h1] at e
            injection e with e
            rw [World.size_alloc] at e
            omega
      case measure => simp [intOf]; omega
    · have t1 : decide ((k : Int) < 32) = false := by simp; omega
      obtain rfl : k = 32 := by omega
      go_wp2
      go_ret
      refine ⟨_, rfl, ?_⟩
      have h := HL.out
      rw [List.take_of_length_le (by omega)] at h
      exact h
theorem fixedB_get (n : Int) (size k : Nat) (h : k < size) : (fixedB n size)[k]? = some (n / 256 ^ (size - 1 - k) % 256) := by
  simp [fixedB, h]

theorem fill_down (F : List Int) (size k : Nat) (x : Int) (hF : F.length = size) (h : k < size) (hx : F[k]? = some x) :
    (List.replicate (k + 1) 0 ++ F.drop (k + 1)).set k x = List.replicate k 0 ++ F.drop k := by
  rw [List.set_append_left _ _ (by simp), List.replicate_succ', List.set_append_right _ _ (by simp), List.length_replicate, Nat.sub_self, List.set_cons_zero, List.append_assoc]
  congr 1
  rw [List.drop_eq_getElem_cons (show k < F.length by omega)]
  rw [List.getElem?_eq_getElem (show k < F.length by omega)] at hx
  injection hx with hx
  rw [hx]
  rfl

set_option maxRecDepth 100000 in
set_option maxHeartbeats 1000000 in
theorem R3big_any (n : Int) (w : World) (h0 : 0 ≤ n) (h1 : n ≤ 18446744073709551615) :
    Calls Tryz.prog 59 #[.int .u64 n] w fun e w' => ∃ v, e = .returned v ∧ OwnB w' w.heap.size v (fixedB n 8) ∧ Kept [] w w' := by
  have hmk : ∀ W : World, (Instr.makeSlice 26 (.int .i64 8) (.int .i64 8)).run Tryz.prog W = .ok (.slice (some ⟨W.heap.size, 0, none⟩) 8 8) (W.alloc (.cells (madeCells #[.int .u8 0] 8) 5)) := fun W => run_make_row' (P := Tryz.prog) 26 5 (.int .u8 0) 1 Tryz.underlying26 Tryz.info_u8 rfl .i64 .i64 8 (by decide) (by decide) W
  have HF : Hid (∀ k, k < 8 → (fixedB n 8)[k]? = some (n / 256 ^ (8 - 1 - k) % 256)) := fun k hk => fixedB_get n 8 k hk
  have hlen := fixedB_len n 8
  have HN : Hid (∀ k : Nat, 0 ≤ n / 256 ^ k ∧ n / 256 ^ k ≤ 18446744073709551615 ∧ (n / 256 ^ k) / 256 = n / 256 ^ (k + 1)) := by
    intro k
    have hp : (0 : Int) < 256 ^ k := Int.pow_pos (by decide)
    refine ⟨Int.ediv_nonneg h0 (by omega), ?_, ?_⟩
    · exact Int.le_trans (Int.ediv_le_self _ h0) h1
    · rw [Int.ediv_ediv_of_nonneg (by omega), Int.pow_succ]
  generalize fixedB n 8 = F at *
  go_enter Tryz.func59, Tryz.ntmps59
  go_wp2
  go_loopw [0, 4] (fun s0 s6 wr => ∃ k : Nat, k ≤ 8 ∧ s6 = .int .i64 ((k : Int) - 1) ∧ s0 = .int .u64 (n / 256 ^ (8 - k)) ∧ Hid (wr.ownsRow w.heap.size 5 1 (.slice (some ⟨w.heap.size, 0, none⟩) 8 8) 8 ((List.replicate k 0 ++ F.drop k).map (Value.int .u8))) ∧ Kept [] w wr) (fun _ s6 _ => (intOf s6 + 1).toNat)
  case atStart =>
    refine ⟨8, Nat.le_refl _, by go_num, by rw [Nat.sub_self, Int.pow_zero, Int.ediv_one], ?_, (Kept.refl _ _).alloc _⟩
    have h := World.ownsRow_lit (base := w.heap.size) (e := 5) (size := 1) w (madeCells #[.int .u8 0] 8) 8 (Nat.le_refl _) (by unfold maxLen; omega) (by rw [size_madeCells]; try omega)
    rw [toList_madeCells_one] at h
    rw [List.drop_eq_nil_of_le (by omega), List.append_nil, List.map_replicate]
    exact h
  case round =>
    obtain ⟨k, hk, rfl, rfl, HO, hkw⟩ := hrel
    cases k with
    | zero =>
      have e0 : ((0 : Nat) : Int) - 1 = -1 := rfl
      rw [e0]
      go_wp2
      go_ret
      refine ⟨_, rfl, ?_, hkw⟩
      have h := HO.out
      rw [List.replicate_zero, List.nil_append, List.drop_zero] at h
      unfold OwnB
      rw [hlen]
      exact h
    | succ j =>
      have e0 : ((j + 1 : Nat) : Int) - 1 = (j : Int) := by omega
      rw [e0]
      have hn := HN.out (8 - (j + 1))
      have hF := HF.out j (by omega)
      rw [show 8 - 1 - j = 8 - (j + 1) by omega] at hF
      rw [show 8 - (j + 1) + 1 = 8 - j by omega] at hn
      have HQ : Hid _ := hn.2.2
      generalize n / 256 ^ (8 - (j + 1)) = m at *
      have hn0 := hn.1
      have hn1 := hn.2.1
      clear hn
      have r1 : Int.tmod m 256 = m % 256 := Int.tmod_eq_emod_of_nonneg hn0
      have r2 : IntKind.u8.wrap (m % 256) = m % 256 := by rw [IntKind.wrap_u8']; omega
      have r3 : Int.tdiv m 256 = m / 256 := Int.tdiv_eq_ediv_of_nonneg hn0
      have HS : Hid (World.ownsRow (wr.setCell ⟨w.heap.size, j, none⟩ (.int .u8 (m % 256))) w.heap.size 5 1 (.slice (some ⟨w.heap.size, 0, none⟩) 8 8) 8 ((List.replicate j 0 ++ F.drop j).map (Value.int .u8))) := by
        have h := (World.ownsRow.stored HO.out j (.int .u8 (m % 256))).1
        rw [← List.map_set, fill_down F 8 j _ hlen (by omega) hF] at h
        exact h
      have c1 : ∃ u, wr.cell? ⟨w.heap.size, j, none⟩ = some u := by
        rw [World.ownsRow.cellAt HO.out j (by omega)]
        exact ⟨_, List.getElem?_eq_getElem (by simp; omega)⟩
      obtain ⟨u1, c1⟩ := c1
      have f1 := World.ownsRow.frozenAt HO.out j
      clear HO
      go_wp2
      go_roundw
      case rel => exact ⟨j, by omega, by go_num, by rw [← HQ.out], HS, hkw.setCell (Or.inr (Nat.le_refl _)) _⟩
      case measure => simp [intOf]
end Go.Proofs.YtfcoeinhfdbcgaaGreatDoor
