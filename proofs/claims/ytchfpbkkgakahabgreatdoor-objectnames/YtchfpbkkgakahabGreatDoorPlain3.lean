/-
  WALK: object.Encode, of a tag.
  PLAIN MATHEMATICS, continued: writing and reading are inverse: one way to write what can be read. No Go text is named here.
-/
import Derived.Test.YtchfpbkkgakahabGreatDoorEncCom
import Derived.Test.YtchfpbkkgakahabGreatDoorRead0
import Derived.Test.YtchfpbkkgakahabGreatDoorWVar
namespace Go.Proofs.YtchfpbkkgakahabGreatDoor
open Go.RowKit

set_option maxRecDepth 100000 in
set_option maxHeartbeats 2000000 in
theorem encodeTag (o : ObjL) (w : World) (hk : o.kind = 4) (hc : o.com.tree.length = 32) (ht : o.tag.target.length = 32) (fv : Int) (enc : List Int) (hen : enc.length ≤ 100000000)
    (hF : ∀ W, Kept [] w W → Calls Tryz.prog 207 #[(.agg o.tag.row.toArray)] W fun e w' => e = .returned (.int .i64 fv) ∧ Kept [] W w')
    (hW : fv = 0 → ∀ W wb S, Kept [] w W → WAt W wb w.heap.size [] S → Calls Tryz.prog 208 #[(.agg o.tag.row.toArray), .pointer (some ⟨wb, 0, none⟩)] W fun e w' => e = .returned (.tuple #[]) ∧ Wrote W w' wb w.heap.size enc S) :
    Calls Tryz.prog 10 #[.agg o.row.toArray] w (EncP w fv enc) := by
  have hcon := fun W => contentOf_any o W (by omega) (by omega) hc ht
  have hcv : conV o = .iface 137 (.agg o.tag.row.toArray) := by unfold conV; rw [if_neg (by omega)]; rw [if_neg (by omega)]; rw [if_neg (by omega)]; rw [if_pos hk]
  rw [hcv, if_pos (by rw [hk]; rfl)] at hcon
  have hsz : (Tryz.prog.info? 39).map (·.size) = some o.row.toArray.size := by
    rw [List.size_toArray, show o.row.length = 76 by unfold ObjL.row; rw [List.length_append, List.length_append, com_len' _ _ hc, show o.tag.row.length = 37 by simp [TagL.row, ht]]; rfl]
    kernel_rfl
  have HB : Hid ((w.alloc (.cells o.row.toArray 39)).heap[w.heap.size]? = some (.cells o.row.toArray 39 (0, 0))) := heap_alloc_new w _
  have hm1 := meth_tag_fault
  have hm2 := meth_tag_write
  have HF0 : Hid _ := hF
  have HW0 : Hid _ := hW
  clear hF hW hcv
  generalize o.row.toArray = orr at *
  generalize hvv : (Value.agg o.tag.row.toArray) = vv at *
  clear hvv
  have HF : Hid (∀ W, Kept [] w W → Calls Tryz.prog 207 #[vv] W fun e w' => e = .returned (.int .i64 fv) ∧ Kept [] W w') := HF0
  clear HF0
  by_cases hf0 : fv = 0
  · subst hf0
    have HW : Hid (∀ W wb S, Kept [] w W → WAt W wb w.heap.size [] S → Calls Tryz.prog 208 #[vv, .pointer (some ⟨wb, 0, none⟩)] W fun e w' => e = .returned (.tuple #[]) ∧ Wrote W w' wb w.heap.size enc S) := HW0.out rfl
    clear HW0
    go_enter Tryz.func10, Tryz.ntmps10
    by_cases hl : 65536 < enc.length
    · have hd : decide (65536 < (enc.length : Int)) = true := decide_eq_true (by omega)
      go_wp2_with (first
        | (refine wpList_load_row (by rfl) 39 (.tmp 1) (by rfl) w.heap.size (by rfl) 39 orr (0, 0) _ HB.out Tryz.underlying39 rfl hsz ?_)
        | (go_at_call 47; refine (hcon _).mono ?_; rintro e w1 ⟨rfl, hk1⟩; have HK1 : Hid (Kept [] w w1) := ((Kept.refl [] w).alloc _).then hk1; clear hk1)
        | (go_at_call 207; refine (HF.out _ HK1.out).mono ?_; rintro e w2 ⟨rfl, hk2⟩; have HK2 : Hid (Kept [] w w2) := HK1.out.then hk2; clear hk2)
        | (go_at_call 48; refine (New_any _ w.heap.size HK2.out.size).mono ?_; rintro e w3 ⟨rfl, hw3, hk3⟩
           have HK3 : Hid (Kept [] w w3) := HK2.out.then hk3
           have HW3 : Hid (WAt w3 w2.heap.size w.heap.size [] [w2.heap.size]) := hw3
           have hs2 := HK2.out.size
           clear hw3 hk3)
        | (go_at_call 208; refine (HW.out _ _ _ HK3.out HW3.out).mono ?_; rintro e w4 ⟨rfl, hw4⟩
           obtain ⟨S4, hat4, hk4, _⟩ := hw4
           have HK4 : Hid (Kept [] w w4) := kept_new HK3.out hk4 hs2
           have HL4 : Hid (Calls Tryz.prog 49 #[.pointer (some ⟨w2.heap.size, 0, none⟩)] w4 fun e w' => e = .returned (.int .i64 enc.length) ∧ w' = w4) := WLen_any hat4
           have HO4 : Hid (Calls Tryz.prog 50 #[.pointer (some ⟨w2.heap.size, 0, none⟩)] w4 fun e w' => e = .returned (.slice (some ⟨w4.heap.size, 0, none⟩) enc.length enc.length) ∧ w'.heap[w4.heap.size]? = some (.cells (enc.map (Value.int .u8)).toArray 5 (0, 0)) ∧ Kept [] w4 w') := WOut_any hat4 (by omega)
           clear hat4 hk4)
        | (go_at_call 49; refine (HL4.out).mono ?_; rintro e w6 ⟨rfl, hw6⟩; subst w6))
      refine bodyPost_ret (v := .tuple #[.slice none 0 0, .int .i64 31]) (by simp [results, Tryz.results10, go_sem]) rfl ⟨HK4.out, fun h => absurd rfl h, fun _ _ => rfl, fun _ h => absurd h (by omega)⟩
    · have hd : decide (65536 < (enc.length : Int)) = false := decide_eq_false (by omega)
      go_wp2_with (first
        | (refine wpList_load_row (by rfl) 39 (.tmp 1) (by rfl) w.heap.size (by rfl) 39 orr (0, 0) _ HB.out Tryz.underlying39 rfl hsz ?_)
        | (go_at_call 47; refine (hcon _).mono ?_; rintro e w1 ⟨rfl, hk1⟩; have HK1 : Hid (Kept [] w w1) := ((Kept.refl [] w).alloc _).then hk1; clear hk1)
        | (go_at_call 207; refine (HF.out _ HK1.out).mono ?_; rintro e w2 ⟨rfl, hk2⟩; have HK2 : Hid (Kept [] w w2) := HK1.out.then hk2; clear hk2)
        | (go_at_call 48; refine (New_any _ w.heap.size HK2.out.size).mono ?_; rintro e w3 ⟨rfl, hw3, hk3⟩
           have HK3 : Hid (Kept [] w w3) := HK2.out.then hk3
           have HW3 : Hid (WAt w3 w2.heap.size w.heap.size [] [w2.heap.size]) := hw3
           have hs2 := HK2.out.size
           clear hw3 hk3)
        | (go_at_call 208; refine (HW.out _ _ _ HK3.out HW3.out).mono ?_; rintro e w4 ⟨rfl, hw4⟩
           obtain ⟨S4, hat4, hk4, _⟩ := hw4
           have HK4 : Hid (Kept [] w w4) := kept_new HK3.out hk4 hs2
           have HL4 : Hid (Calls Tryz.prog 49 #[.pointer (some ⟨w2.heap.size, 0, none⟩)] w4 fun e w' => e = .returned (.int .i64 enc.length) ∧ w' = w4) := WLen_any hat4
           have HO4 : Hid (Calls Tryz.prog 50 #[.pointer (some ⟨w2.heap.size, 0, none⟩)] w4 fun e w' => e = .returned (.slice (some ⟨w4.heap.size, 0, none⟩) enc.length enc.length) ∧ w'.heap[w4.heap.size]? = some (.cells (enc.map (Value.int .u8)).toArray 5 (0, 0)) ∧ Kept [] w4 w') := WOut_any hat4 (by omega)
           clear hat4 hk4)
        | (go_at_call 49; refine (HL4.out).mono ?_; rintro e w6 ⟨rfl, hw6⟩; subst w6)
        | (go_at_call 50; refine (HO4.out).mono ?_; rintro e w5 ⟨rfl, hb5, hk5⟩
           have HK5 : Hid (Kept [] w w5) := HK4.out.then hk5
           have HB5 : Hid _ := hb5
           have hs4 := HK4.out.size
           clear hb5 hk5))
      refine bodyPost_ret (v := .tuple #[.slice (some ⟨w4.heap.size, 0, none⟩) enc.length enc.length, .int .i64 0]) (by simp [results, Tryz.results10, go_sem]) rfl ⟨HK5.out, fun h => absurd rfl h, fun _ h => absurd h hl, fun _ _ => ⟨_, rfl, HB5.out, hs4⟩⟩
  · have hne : (fv != 0) = true := bne_iff_ne.2 hf0
    clear HW0
    go_enter Tryz.func10, Tryz.ntmps10
    go_wp2_with (first
      | (refine wpList_load_row (by rfl) 39 (.tmp 1) (by rfl) w.heap.size (by rfl) 39 orr (0, 0) _ HB.out Tryz.underlying39 rfl hsz ?_)
      | (go_at_call 47; refine (hcon _).mono ?_; rintro e w1 ⟨rfl, hk1⟩; have HK1 : Hid (Kept [] w w1) := ((Kept.refl [] w).alloc _).then hk1; clear hk1)
      | (go_at_call 207; refine (HF.out _ HK1.out).mono ?_; rintro e w2 ⟨rfl, hk2⟩; have HK2 : Hid (Kept [] w w2) := HK1.out.then hk2; clear hk2))
    refine bodyPost_ret (v := .tuple #[.slice none 0 0, .int .i64 fv]) (by simp [results, Tryz.results10, go_sem]) rfl ⟨HK2.out, fun _ => rfl, fun h => absurd h hf0, fun h => absurd h hf0⟩
end Go.Proofs.YtchfpbkkgakahabGreatDoor

namespace Go.Proofs.YtchfpbkkgakahabGreatDoor
open Go.RowKit

theorem fixedB_snoc (n : Int) (s : Nat) : fixedB n (s + 1) = fixedB (n / 256) s ++ [n % 256] := by
  unfold fixedB
  rw [List.range_succ, List.map_append]
  congr 1
  · refine List.map_congr_left fun i hi => ?_
    have hi := List.mem_range.1 hi
    rw [show s + 1 - 1 - i = (s - 1 - i) + 1 by omega, Int.pow_succ, Int.mul_comm, ← Int.ediv_ediv_of_nonneg (by decide)]
  · simp
/-- What is read as a number of so many bytes is written so. -/
theorem fixedB_be : ∀ (s : Nat) (l : List Int), l.length = s → Octs l → fixedB (be l) s = l := by
  intro s
  induction s with
  | zero => intro l hl _; rw [List.eq_nil_of_length_eq_zero hl]; rfl
  | succ s ih =>
    intro l hl ho
    rcases List.eq_nil_or_concat l with rfl | ⟨l', x, rfl⟩
    · simp at hl
    · rw [List.concat_eq_append] at *
      have hx := ho x (by simp)
      have hl' : l'.length = s := by simpa using hl
      rw [fixedB_snoc, be_snoc, show (be l' * 256 + x) / 256 = be l' by omega, show (be l' * 256 + x) % 256 = x by omega, ih l' hl' (fun u hu => ho u (by simp [hu]))]

theorem pow_pos128 (k : Nat) : (0 : Int) < 128 ^ k := Int.pow_pos (by decide)
theorem pow_mono128 {a b : Nat} (h : a ≤ b) : (128 : Int) ^ a ≤ 128 ^ b := by
  rw [pow128, pow128]
  exact Int.ofNat_le.2 (Nat.pow_le_pow_right (by decide) (by omega))
theorem lastOf_is (n : Int) (k : Nat) (h0 : 0 ≤ n) (h1 : n ≤ 18446744073709551615) (hk1 : n < 128 ^ (k + 1)) (hk0 : 1 ≤ k → 128 ^ k ≤ n) : lastOf n = k := by
  obtain ⟨g1, g2, _⟩ := lastOf_spec n h0 h1
  rcases Nat.lt_trichotomy (lastOf n) k with h | h | h
  · have := pow_mono128 (show lastOf n + 1 ≤ k by omega)
    have := hk0 (by omega)
    omega
  · exact h
  · have := pow_mono128 (show k + 1 ≤ lastOf n by omega)
    have := g2 (by omega)
    omega
theorem add_div128 (n s : Int) (k : Nat) (h0 : 0 ≤ n) (h1 : n < 128 ^ k) : (n + s * 128 ^ k) / 128 ^ k = s := by
  have hp := pow_pos128 k
  rw [Int.add_mul_ediv_right _ _ (by omega), Int.ediv_eq_zero_of_lt h0 h1]
  omega

/-- While a number is gathered: what is gathered so far, whatever comes behind, is written as what was read. -/
def Gath (n : Int) (i : Nat) (pre : List Int) : Prop := ∀ t : Int, varHead (n + t * 128 ^ i) i = pre

theorem gath_step {n : Int} {i : Nat} {pre : List Int} (h : Gath n i pre) (h0 : 0 ≤ n) (h1 : n < 128 ^ i) (x : Int) (hx0 : 128 ≤ x) (hx1 : x ≤ 255) : Gath (n + (x - 128) * 128 ^ i) (i + 1) (pre ++ [x]) := by
  intro t
  have e : n + (x - 128) * 128 ^ i + t * 128 ^ (i + 1) = n + (x - 128 + t * 128) * 128 ^ i := by
    rw [Int.pow_succ, Int.add_mul, Int.mul_assoc t 128, Int.mul_comm 128 (128 ^ i), Int.add_assoc]
  rw [e, varHead_succ, h, add_div128 _ _ _ h0 h1]
  congr 2
  omega

theorem varFrom_one (most : Int) : ∀ (fuel i : Nat) (n : Int) (l pre : List Int), fuel + i = 10 → 0 ≤ n → n < 128 ^ i → Gath n i pre → Octs l → most ≤ 18446744073709551615 → pre.length = i →
    (varFrom most fuel i n l).f = 0 → varB (varFrom most fuel i n l).n = (pre ++ l).take (varFrom most fuel i n l).to := by
  intro fuel
  induction fuel with
  | zero => intro i n l pre _ _ _ _ _ _ _ hf; simp [varFrom] at hf
  | succ fuel ih =>
    intro i n l pre hfi hn0 hn1 hg ho hm hp hf
    match l with
    | [] => simp [varFrom] at hf
    | x :: r =>
      have hx := ho x (by simp)
      unfold varFrom at hf ⊢
      split at hf
      · simp at hf
      · rename_i h9
        rw [if_neg h9]
        split at hf
        · rename_i h128
          rw [if_pos h128]
          have := ih (i + 1) (n + (x - 128) * 128 ^ i) r (pre ++ [x]) (by omega) (var_ge i n _ hn0 (by omega)) (var_lt i n _ hn1 (by omega)) (gath_step hg hn0 hn1 x h128 hx.2) (fun u hu => ho u (by simp [hu])) hm (by simp [hp]) hf
          rw [this, List.append_assoc]
          rfl
        · rename_i h128
          rw [if_neg h128]
          split at hf
          · simp at hf
          · rename_i hz
            rw [if_neg hz]
            split at hf
            · simp at hf
            · rename_i hmx
              rw [if_neg hmx]
              dsimp only
              have hN0 := var_ge i n x hn0 hx.1
              have hN1 := var_lt i n x hn1 (by omega)
              have hlast : lastOf (n + x * 128 ^ i) = i := by
                refine lastOf_is _ i hN0 (by omega) hN1 fun hi => ?_
                have hx1 : 1 ≤ x := by omega
                have hpp := pow_pos128 i
                have := Int.mul_le_mul_of_nonneg_right hx1 (Int.le_of_lt hpp)
                omega
              unfold varB
              rw [hlast, hg x, add_div128 _ _ _ hn0 hn1, List.take_append, hp]
              rw [show i + 1 - i = 1 by omega, List.take_of_length_le (by omega)]
              rfl
/-- What is read as a number in its shortest form is written so. -/
theorem varL_one (ys : List Int) (most : Int) (ho : Octs ys) (hm : most ≤ 18446744073709551615) (hf : (varL ys most).f = 0) : varB (varL ys most).n = ys.take (varL ys most).to :=
  varFrom_one most 10 0 0 ys [] rfl (Int.le_refl _) (by decide) (fun t => by simp [varHead]) ho hm rfl hf

end Go.Proofs.YtchfpbkkgakahabGreatDoor
