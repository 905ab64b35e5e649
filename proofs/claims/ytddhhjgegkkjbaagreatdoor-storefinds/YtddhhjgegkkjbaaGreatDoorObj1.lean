/-
  The two tables of UTF-8 that a world holds, as a class: what is told of texts is told of these.
  WALKS: object.goodLine, object.Name: for every text.
-/
import Derived.Test.YtddhhjgegkkjbaaGreatDoorValT
import Derived.Test.YtddhhjgegkkjbaaGreatDoorShelf
import Derived.Test.YtddhhjgegkkjbaaGreatDoorIdEq
import Derived.Laws.RangeAny
import Derived.Lib.ValidU
import Derived.Lib.Bytes
namespace Go.Proofs.YtddhhjgegkkjbaaGreatDoor
/-- The tables at hand. -/
class TabC where
  T : FT
end Go.Proofs.YtddhhjgegkkjbaaGreatDoor

namespace Go.Proofs.YtddhhjgegkkjbaaGreatDoor
open Go.RowKit

/-- The library's two tables of UTF-8 lie in memory, whatever they hold. -/
def Tabs [TabC] (w : World) : Prop := FTat TabC.T w

/-- Bytes that may stand on one line. -/
def okByte (b : Int) : Bool := decide (32 ≤ b) && !decide (b = 127)
def utfB [TabC] (xs : List Int) : Bool := valT TabC.T (strOfNums xs).data.toList
def lineB [TabC] (xs : List Int) (most : Int) : Bool := decide ((xs.length : Int) ≤ most) && utfB xs && xs.all okByte
def nameB [TabC] (xs : List Int) : Bool := !decide (xs = []) && !decide (xs = [46]) && !decide (xs = [46, 46]) && lineB xs 255 && !decide (47 ∈ xs)

theorem str_at (xs : List Int) (ho : Octs xs) (p : Nat) (h : p < xs.length) : ((strOfNums xs)[p]'(by rw [strOfNums_size]; exact h)).toNat = (xs[p]'h).toNat := by
  have h1 := ho xs[p] (List.getElem_mem h)
  have e : (strOfNums xs)[p]'(by rw [strOfNums_size]; exact h) = UInt8.ofNat (xs[p]'h).toNat := by
    show (strOfNums xs).data[p]'_ = _
    simp [strOfNums]
  rw [e, UInt8.toNat_ofNat']
  omega
theorem get_of (s : ByteArray) (p : Nat) (h : p < s.size) : s.get! p = s[p]'h := by
  simp [ByteArray.get!, getElem!_pos, h]
  rfl
/-- What a rune takes besides its first byte are bytes above 127. -/
theorem width_high (s : ByteArray) (pos : Nat) (h : pos < s.size) : pos + (Utf8.decode s pos).2 ≤ s.size ∧ ∀ k, 1 ≤ k → k < (Utf8.decode s pos).2 → 128 ≤ (s.get! (pos + k)).toNat := by
  simp only [Utf8.decode]
  split
  · exact ⟨by show pos + 1 ≤ _; omega, fun k h1 h2 => absurd h2 (by show ¬ k < 1; omega)⟩
  · split
    · rename_i hc
      simp only [Bool.and_eq_true, decide_eq_true_eq, beq_iff_eq] at hc
      split
      · refine ⟨by show pos + 2 ≤ _; omega, fun k h1 h2 => ?_⟩
        obtain rfl : k = 1 := by have : k < 2 := h2; omega
        omega
      · exact ⟨by show pos + 1 ≤ _; omega, fun k h1 h2 => absurd h2 (by show ¬ k < 1; omega)⟩
    · split
      · rename_i hc
        simp only [Bool.and_eq_true, decide_eq_true_eq, beq_iff_eq] at hc
        split
        · refine ⟨by show pos + 3 ≤ _; omega, fun k h1 h2 => ?_⟩
          have h3 : k < 3 := h2
          rcases (by omega : k = 1 ∨ k = 2) with rfl | rfl
          · omega
          · omega
        · exact ⟨by show pos + 1 ≤ _; omega, fun k h1 h2 => absurd h2 (by show ¬ k < 1; omega)⟩
      · split
        · rename_i hc
          simp only [Bool.and_eq_true, decide_eq_true_eq, beq_iff_eq] at hc
          split
          · refine ⟨by show pos + 4 ≤ _; omega, fun k h1 h2 => ?_⟩
            have h3 : k < 4 := h2
            rcases (by omega : k = 1 ∨ k = 2 ∨ k = 3) with rfl | rfl | rfl
            · omega
            · omega
            · omega
          · exact ⟨by show pos + 1 ≤ _; omega, fun k h1 h2 => absurd h2 (by show ¬ k < 1; omega)⟩
        · exact ⟨by show pos + 1 ≤ _; omega, fun k h1 h2 => absurd h2 (by show ¬ k < 1; omega)⟩

theorem indexByte_mem (c : UInt8) : ∀ l : List UInt8, decide (0 ≤ Lib.indexByte l c) = decide (c ∈ l)
  | [] => by simp [Lib.indexByte]
  | b :: l => by
    have ih := indexByte_mem c l
    unfold Lib.indexByte
    by_cases hb : b = c
    · subst hb; simp
    · rw [if_neg (by simp [hb])]
      by_cases hi : Lib.indexByte l c = -1
      · rw [if_pos (by simp [hi])]
        rw [hi] at ih
        have : c ∉ l := by
          intro hm
          rw [decide_eq_true hm] at ih
          simp at ih
        simp [Ne.symm hb, this]
      · have h1 := Lib.indexByte_ge l c
        rw [if_neg (by simpa using hi)]
        have hm : c ∈ l := by
          rw [decide_eq_true (by omega)] at ih
          simpa using ih.symm
        rw [decide_eq_true (by omega), decide_eq_true (List.mem_cons_of_mem _ hm)]
theorem mem_str (xs : List Int) (ho : Octs xs) : decide ((47 : UInt8) ∈ (strOfNums xs).data.toList) = decide ((47 : Int) ∈ xs) := by
  rw [strOfNums_data]
  apply decide_eq_decide.2
  constructor
  · intro h
    obtain ⟨u, hu, he⟩ := List.mem_map.1 h
    have hr := ho u hu
    have h2 := congrArg UInt8.toNat he
    rw [UInt8.toNat_ofNat'] at h2
    have h3 : (47 : UInt8).toNat = 47 := rfl
    have : u = 47 := by omega
    exact this ▸ hu
  · intro h
    exact List.mem_map.2 ⟨47, h, rfl⟩

theorem Contains_any (xs : List Int) (ho : Octs xs) (w : World) :
    Calls Tryz.prog 131 #[.string (strOfNums xs), .string ⟨#[47]⟩] w fun e w' => e = .returned (.bool (decide ((47 : Int) ∈ xs))) ∧ w' = w := by
  have h := Any.strings_Contains_one Tryz.laysContains (strOfNums xs) 47 w
  rw [indexByte_mem, mem_str xs ho] at h
  exact h
theorem Valid_any [TabC] (xs : List Int) (w : World) (hs : xs.length ≤ 9223372036854775807) (hT : Tabs w) :
    Calls Tryz.prog 132 #[.string (strOfNums xs)] w fun e w' => e = .returned (.bool (utfB xs)) ∧ Kept [] w w' :=
  ValidT_any TabC.T (strOfNums xs) w (by rw [strOfNums_size]; exact hs) hT

set_option maxRecDepth 100000 in
set_option maxHeartbeats 1000000 in
theorem goodLine_any [TabC] (xs : List Int) (ho : Octs xs) (most : Int) (w : World) (hs : xs.length ≤ 9223372036854775807) (hT : Tabs w) :
    Calls Tryz.prog 130 #[.string (strOfNums xs), .int .i64 most] w fun e w' => e = .returned (.bool (lineB xs most)) ∧ Kept [] w w' := by
  have hval := Valid_any xs w hs hT
  have hsz := strOfNums_size xs
  have HAT : Hid (∀ p (h : p < xs.length) (h2 : p < (strOfNums xs).size), ((strOfNums xs)[p]'h2).toNat = (xs[p]'h).toNat) := fun p h _ => str_at xs ho p h
  have HO : Hid (Octs xs) := ho
  clear hT ho
  by_cases hm : (xs.length : Int) ≤ most
  · by_cases hu : utfB xs = true
    · rw [hu] at hval
      have HL : Hid (lineB xs most = xs.all okByte) := by
        have : lineB xs most = xs.all okByte := by unfold lineB; rw [decide_eq_true hm, hu]; rfl
        exact this
      have hgt : decide (most < (xs.length : Int)) = false := decide_eq_false (by omega)
      clear hu hm
      generalize strOfNums xs = S at *
      go_enter Tryz.func130, Tryz.ntmps130
      go_wp2_with (go_at_call 132; refine hval.mono ?_; rintro e w1 ⟨rfl, hk1⟩; have HK1 : Hid _ := hk1; clear hk1)
      go_loopw [6] (fun _ wr => ∃ p : Nat, p ≤ xs.length ∧ wr = w1.iter S p ∧ Hid (∀ i (h : i < xs.length), i < p → okByte xs[i] = true)) (fun _ wr => xs.length - wr.iterPos w1.heap.size)
      case atStart => exact ⟨0, Nat.zero_le _, rfl, fun i _ h => absurd h (by omega)⟩
      case round =>
        obtain ⟨p, hp, rfl, HP⟩ := hrel
        have HKW : Hid (∀ q, Kept [] w (w1.iter S q)) := fun q => HK1.out.alloc _
        by_cases hlt : p < xs.length
        · have hps : p < S.size := by omega
          have hz := HO.out xs[p] (List.getElem_mem hlt)
          by_cases ha : xs[p] < 128
          · have hnx : ∀ ty, (Instr.next (.pointer (some ⟨w1.heap.size, 0, none⟩)) true ty).run Tryz.prog (w1.iter S p) = .ok (.tuple #[.bool true, .int .i64 p, .int .i32 xs[p]]) (w1.iter S (p + 1)) := fun ty => by
              have h := run_next_ascii (P := Tryz.prog) w1 S p ty hps (by rw [HAT.out p hlt hps]; omega)
              rw [HAT.out p hlt hps, Int.toNat_of_nonneg hz.1] at h
              exact h
            by_cases hk : okByte xs[p] = true
            · have HP' : Hid (∀ i (h : i < xs.length), i < p + 1 → okByte xs[i] = true) := fun i h hi => by
                by_cases hip : i = p
                · subst hip; exact hk
                · exact HP.out i h (by omega)
              unfold okByte at hk
              simp only [Bool.and_eq_true, decide_eq_true_eq, Bool.not_eq_true', decide_eq_false_iff_not] at hk
              have hd1 : decide (xs[p] < 32) = false := decide_eq_false (by omega)
              have hd2 : (xs[p] == 127) = false := beq_eq_false_iff_ne.2 hk.2
              clear hk
              generalize xs[p] = z at *
              go_wp2
              go_roundw
              case rel => exact ⟨p + 1, by omega, rfl, HP'⟩
              case measure => simp; omega
            · have HF : Hid (lineB xs most = false) := by
                rw [HL.out]
                have : xs.all okByte = false := by
                  rw [List.all_eq_false]
                  exact ⟨xs[p], List.getElem_mem hlt, hk⟩
                exact this
              have hk2 : decide (xs[p] < 32) = true ∨ decide (xs[p] < 32) = false ∧ (xs[p] == 127) = true := by
                unfold okByte at hk
                simp at hk
                by_cases h32 : xs[p] < 32
                · exact Or.inl (decide_eq_true h32)
                · exact Or.inr ⟨decide_eq_false h32, by rw [hk (by omega)]; rfl⟩
              clear hk
              generalize xs[p] = z at *
              rcases hk2 with h1 | ⟨h1, h2⟩
              · go_wp2
                go_ret
                exact ⟨by rw [HF.out]; rfl, HKW.out _⟩
              · go_wp2
                go_ret
                exact ⟨by rw [HF.out]; rfl, HKW.out _⟩
          · have hge : 128 ≤ (S[p]'hps).toNat := by rw [HAT.out p hlt hps]; omega
            obtain ⟨hd1, hd2⟩ := decode_high S p hps hge
            obtain ⟨hw1, hw2⟩ := width_high S p hps
            have hle := decode_le S p
            have hnx : ∀ ty, (Instr.next (.pointer (some ⟨w1.heap.size, 0, none⟩)) true ty).run Tryz.prog (w1.iter S p) = .ok (.tuple #[.bool true, .int .i64 p, .int .i32 (Utf8.decode S p).1]) (w1.iter S (p + (Utf8.decode S p).2)) := fun ty => run_next_any (P := Tryz.prog) w1 S p ty hps
            have HP' : Hid (∀ i (h : i < xs.length), i < p + (Utf8.decode S p).2 → okByte xs[i] = true) := fun i h hi => by
              have big : 128 ≤ xs[i] → okByte xs[i] = true := fun hb => by
                unfold okByte
                rw [decide_eq_true (by omega), decide_eq_false (by omega)]
                rfl
              rcases Nat.lt_trichotomy i p with hip | hip | hip
              · exact HP.out i h hip
              · subst hip; exact big (by omega)
              · refine big ?_
                have h3 := hw2 (i - p) (by omega) (by omega)
                have his : i < S.size := by omega
                rw [show p + (i - p) = i by omega, get_of S i his, HAT.out i h his] at h3
                omega
            generalize (Utf8.decode S p).1 = rv at *
            generalize (Utf8.decode S p).2 = n at *
            have hx1 : decide ((rv : Int) < 32) = false := decide_eq_false (by omega)
            have hx2 : ((rv : Int) == 127) = false := beq_eq_false_iff_ne.2 (by omega)
            clear hw2 hge ha hz
            go_wp2
            go_roundw
            case rel => exact ⟨p + n, by omega, rfl, HP'⟩
            case measure => simp; omega
        · have hps : ¬ p < S.size := by omega
          have hnx : ∀ ty, (Instr.next (.pointer (some ⟨w1.heap.size, 0, none⟩)) true ty).run Tryz.prog (w1.iter S p) = .ok (.tuple #[.bool false]) (w1.iter S p) := fun ty => run_next_end (P := Tryz.prog) w1 S p ty hps
          have HT : Hid (lineB xs most = true) := by
            rw [HL.out]
            have : xs.all okByte = true := by
              rw [List.all_eq_true]
              intro u hu
              obtain ⟨i, hi, rfl⟩ := List.getElem_of_mem hu
              exact HP.out i hi (by omega)
            exact this
          go_wp2
          go_ret
          exact ⟨by rw [HT.out]; rfl, HKW.out _⟩
    · have hu' : utfB xs = false := by simpa using hu
      rw [hu'] at hval
      have HF : Hid (lineB xs most = false) := by
        have : lineB xs most = false := by unfold lineB; rw [hu']; simp
        exact this
      have hgt : decide (most < (xs.length : Int)) = false := decide_eq_false (by omega)
      clear hu hm hu'
      generalize strOfNums xs = S at *
      go_enter Tryz.func130, Tryz.ntmps130
      go_wp2_with (go_at_call 132; refine hval.mono ?_; rintro e w1 ⟨rfl, hk1⟩; have HK1 : Hid _ := hk1; clear hk1)
      go_ret
      exact ⟨by rw [HF.out]; rfl, HK1.out⟩
  · have HF : Hid (lineB xs most = false) := by
      have : lineB xs most = false := by unfold lineB; rw [decide_eq_false hm]; simp
      exact this
    have hgt : decide (most < (xs.length : Int)) = true := decide_eq_true (by omega)
    clear hm hval
    generalize strOfNums xs = S at *
    go_enter Tryz.func130, Tryz.ntmps130
    go_wp2
    go_ret
    exact ⟨by rw [HF.out]; rfl, Kept.refl _ _⟩

theorem str_list (xs : List Int) (l : List UInt8) (ys : List Int) (hx : Octs xs) (hy : Octs ys) (hl : (strOfNums ys).data.toList = l) : ((strOfNums xs).toList = l) ↔ xs = ys := by
  rw [Lib.strOfNums_toList]
  constructor
  · intro e
    refine (strOfNums_inj hx hy).1 ?_
    have e2 : (strOfNums xs).data.toList = (strOfNums ys).data.toList := by rw [hl]; exact e
    cases hA : strOfNums xs with
    | mk d1 =>
      cases hB : strOfNums ys with
      | mk d2 =>
        rw [hA, hB] at e2
        have : d1 = d2 := by
          cases d1; cases d2
          simpa using e2
        rw [this]
  · rintro rfl
    exact hl

set_option maxRecDepth 100000 in
set_option maxHeartbeats 1000000 in
theorem Name_any [TabC] (xs : List Int) (ho : Octs xs) (w : World) (hs : xs.length ≤ 9223372036854775807) (hT : Tabs w) :
    Calls Tryz.prog 129 #[.string (strOfNums xs)] w fun e w' => e = .returned (.bool (nameB xs)) ∧ Kept [] w w' := by
  have hline := goodLine_any xs ho 255 w hs hT
  have hcon := fun W => Contains_any xs ho W
  have h0 := str_list xs [] [] ho (fun u hu => by simp at hu) rfl
  have h1 := str_list xs [46] [46] ho (fun u hu => by simp at hu; omega) rfl
  have h2 := str_list xs [46, 46] [46, 46] ho (fun u hu => by simp at hu; omega) rfl
  clear hT ho
  generalize strOfNums xs = S at *
  by_cases c0 : xs = []
  · have HN : Hid (nameB xs = false) := by
      have : nameB xs = false := by unfold nameB; rw [decide_eq_true c0]; rfl
      exact this
    have p0 := h0.2 c0
    clear h0 h1 h2 hline hcon c0
    go_enter Tryz.func129, Tryz.ntmps129
    go_wp2
    go_ret
    exact ⟨by rw [HN.out]; rfl, Kept.refl _ _⟩
  · have p0 : ¬ S.toList = [] := fun e => c0 (h0.1 e)
    by_cases c1 : xs = [46]
    · have HN : Hid (nameB xs = false) := by
        have : nameB xs = false := by unfold nameB; rw [decide_eq_true c1]; simp
        exact this
      have p1 := h1.2 c1
      clear h0 h1 h2 hline hcon c0 c1 p0
      go_enter Tryz.func129, Tryz.ntmps129
      go_wp2
      go_ret
      exact ⟨by rw [HN.out]; rfl, Kept.refl _ _⟩
    · have p1 : ¬ S.toList = [46] := fun e => c1 (h1.1 e)
      by_cases c2 : xs = [46, 46]
      · have HN : Hid (nameB xs = false) := by
          have : nameB xs = false := by unfold nameB; rw [decide_eq_true c2]; simp
          exact this
        have p2 := h2.2 c2
        clear h0 h1 h2 hline hcon c0 c1 c2 p0 p1
        go_enter Tryz.func129, Tryz.ntmps129
        go_wp2
        go_ret
        exact ⟨by rw [HN.out]; rfl, Kept.refl _ _⟩
      · have p2 : ¬ S.toList = [46, 46] := fun e => c2 (h2.1 e)
        have HN : Hid (nameB xs = (lineB xs 255 && !decide (47 ∈ xs))) := by
          have : nameB xs = (lineB xs 255 && !decide (47 ∈ xs)) := by unfold nameB; rw [decide_eq_false c0, decide_eq_false c1, decide_eq_false c2]; rfl
          exact this
        clear h0 h1 h2 c0 c1 c2
        generalize lineB xs 255 = b3 at *
        generalize decide (47 ∈ xs) = b4 at *
        cases b3
        · go_enter Tryz.func129, Tryz.ntmps129
          go_wp2_with (go_at_call 130; refine hline.mono ?_; rintro e w1 ⟨rfl, hk1⟩; have HK1 : Hid _ := hk1; clear hk1)
          go_ret
          exact ⟨by rw [HN.out]; rfl, HK1.out⟩
        · go_enter Tryz.func129, Tryz.ntmps129
          go_wp2_with (first
            | (go_at_call 130; refine hline.mono ?_; rintro e w1 ⟨rfl, hk1⟩; have HK1 : Hid _ := hk1; clear hk1)
            | (go_at_call 131; refine (hcon _).mono ?_; rintro e w2 ⟨rfl, hw2⟩; subst w2))
          go_ret
          exact ⟨by rw [HN.out]; simp [p0, p1, p2], HK1.out⟩
end Go.Proofs.YtddhhjgegkkjbaaGreatDoor
