/-
  THE LIBRARY's CONTRACTS that are used here, laid at this program in plain words (by the guide's lay-plain): the table of numbers, and a field a fact.
  WALKS: object.goodLine, object.Name: for every text.
-/
import Derived.Test.YtnfbiemmdaenpaaDoorProg
import Derived.Shelf.Unicode.ValidAny
import Derived.Shelf.Strings.Search3
import Derived.Test.YtnfbiemmdaenpaaDoorRows0
import Derived.Laws.RangeAny
import Derived.Lib.ValidU
import Derived.Lib.Bytes
namespace Go.Proofs
open Go.Shelf
def Tryd.laysValid_ren : Go.Shelf.Ren := ⟨fun | 196 => 54 | 259 => 63 | n => n, fun | 9 => 9 | 4 => 4 | 3 => 3 | 5 => 5 | 12 => 12 | 119 => 118 | 0 => 0 | 46 => 122 | 139 => 121 | 138 => 120 | 53 => 27 | n => n, fun | 3 => 0 | 4 => 1 | n => n⟩
theorem Tryd.laysValid : Go.Proofs.Lays.n196 Tryd.prog Tryd.laysValid_ren := {
  mixed := by kernel_rfl
  f196 := Tryd.func54.trans (congrArg some (by kernel_rfl))
  f259 := Tryd.func63.trans (congrArg some (by kernel_rfl))
  t0 := Tryd.underlying0
  a0 := Tryd.isAgg0
  z0 := Tryd.sizeOf0
  v0 := Tryd.zeroValue0
  t3 := Tryd.underlying3
  a3 := Tryd.isAgg3
  z3 := Tryd.sizeOf3
  v3 := Tryd.zeroValue3
  t4 := Tryd.underlying4
  a4 := Tryd.isAgg4
  z4 := Tryd.sizeOf4
  v4 := Tryd.zeroValue4
  t5 := Tryd.underlying5
  a5 := Tryd.isAgg5
  z5 := Tryd.sizeOf5
  v5 := Tryd.zeroValue5
  t9 := Tryd.underlying9
  a9 := Tryd.isAgg9
  z9 := Tryd.sizeOf9
  v9 := Tryd.zeroValue9
  t12 := Tryd.underlying12
  a12 := Tryd.isAgg12
  z12 := Tryd.sizeOf12
  v12 := Tryd.zeroValue12
  t46 := Tryd.underlying122
  a46 := Tryd.isAgg122
  z46 := Tryd.sizeOf122
  v46 := Tryd.zeroValue122
  t53 := Tryd.underlying27
  a53 := Tryd.isAgg27
  z53 := Tryd.sizeOf27
  v53 := Tryd.zeroValue27
  t119 := Tryd.underlying118
  a119 := Tryd.isAgg118
  z119 := Tryd.sizeOf118
  t138 := Tryd.underlying120
  a138 := Tryd.isAgg120
  z138 := Tryd.sizeOf120
  v138 := Tryd.zeroValue120
  t139 := Tryd.underlying121
  a139 := Tryd.isAgg121
  z139 := Tryd.sizeOf121
  v139 := Tryd.zeroValue121
  g3 := by kernel_rfl
  g4 := by kernel_rfl }
def Tryd.laysContains_ren : Go.Shelf.Ren := ⟨fun | 144 => 31 | 143 => 55 | 219 => 64 | 217 => 68 | 225 => 69 | 224 => 70 | 267 => 71 | 266 => 77 | 314 => 78 | n => n, fun | 9 => 9 | 4 => 4 | 3 => 3 | 5 => 5 | 46 => 122 | 146 => 134 | 51 => 133 | n => n, fun | 1 => 2 | n => n⟩
theorem Tryd.laysContains : Go.Proofs.Lays.n144 Tryd.prog Tryd.laysContains_ren := {
  mixed := by kernel_rfl
  f143 := Tryd.func55.trans (congrArg some (by kernel_rfl))
  f144 := Tryd.func31.trans (congrArg some (by kernel_rfl))
  f217 := Tryd.func68.trans (congrArg some (by kernel_rfl))
  f219 := Tryd.func64.trans (congrArg some (by kernel_rfl))
  f224 := Tryd.func70.trans (congrArg some (by kernel_rfl))
  f225 := Tryd.func69.trans (congrArg some (by kernel_rfl))
  f266 := Tryd.func77.trans (congrArg some (by kernel_rfl))
  f267 := Tryd.func71.trans (congrArg some (by kernel_rfl))
  f314 := Tryd.func78.trans (congrArg some (by kernel_rfl))
  t3 := Tryd.underlying3
  a3 := Tryd.isAgg3
  z3 := Tryd.sizeOf3
  v3 := Tryd.zeroValue3
  t4 := Tryd.underlying4
  a4 := Tryd.isAgg4
  z4 := Tryd.sizeOf4
  v4 := Tryd.zeroValue4
  t5 := Tryd.underlying5
  a5 := Tryd.isAgg5
  z5 := Tryd.sizeOf5
  v5 := Tryd.zeroValue5
  t9 := Tryd.underlying9
  a9 := Tryd.isAgg9
  z9 := Tryd.sizeOf9
  v9 := Tryd.zeroValue9
  t46 := Tryd.underlying122
  a46 := Tryd.isAgg122
  z46 := Tryd.sizeOf122
  v46 := Tryd.zeroValue122
  t51 := Tryd.underlying133
  a51 := Tryd.isAgg133
  z51 := Tryd.sizeOf133
  v51 := Tryd.zeroValue133
  t146 := Tryd.underlying134
  a146 := Tryd.isAgg134
  z146 := Tryd.sizeOf134
  v146 := Tryd.zeroValue134
  g1 := by kernel_rfl }
end Go.Proofs

namespace Go.Proofs.YtnfbiemmdaenpaaDoor
open Go.RowKit

/-- The library's two tables of UTF-8 lie in memory. -/
def Tabs (w : World) : Prop := Lib.Utf8Tabs (Tryd.laysValid_ren.g 3) (Tryd.laysValid_ren.g 4) w

/-- Bytes that may stand on one line. -/
def okByte (b : Int) : Bool := decide (32 ≤ b) && !decide (b = 127)
def utfB (xs : List Int) : Bool := Lib.validD (strOfNums xs).data.toList
def lineB (xs : List Int) (most : Int) : Bool := decide ((xs.length : Int) ≤ most) && utfB xs && xs.all okByte
def nameB (xs : List Int) : Bool := !decide (xs = []) && !decide (xs = [46]) && !decide (xs = [46, 46]) && lineB xs 255 && !decide (47 ∈ xs)

theorem str_at (xs : List Int) (ho : Octs xs) (p : Nat) (h : p < xs.length) : ((strOfNums xs)[p]'(by rw [strOfNums_size]; exact h)).toNat = (xs[p]'h).toNat := by
  have h1 := ho xs[p] (List.getElem_mem h)
  have e : (strOfNums xs)[p]'(by rw [strOfNums_size]; exact h) = UInt8.ofNat (xs[p]'h).toNat := by
    show (strOfNums xs).data[p]'_ = _
    simp [strOfNums]
  rw [e, UInt8.toNat_ofNat']
  omega
theorem get_of (s : ByteArray) (p : Nat) (h : p < s.size) : s.get! p = s[p]'h := by
  simp [ByteArray.get!, getElem!_pos, h]
  rfl
theorem width_pos (s : ByteArray) (pos : Nat) (h : pos < s.size) : 1 ≤ (Utf8.decode s pos).2 := by
  by_cases ha : (s[pos]'h).toNat < 128
  · rw [decode_ascii s pos h ha]
    exact Nat.le_refl _
  · exact (decode_high s pos h (by omega)).2
/-- What a rune takes besides its first byte are bytes above 127. -/
theorem width_high (s : ByteArray) (pos : Nat) (h : pos < s.size) : pos + (Utf8.decode s pos).2 ≤ s.size ∧ ∀ k, 1 ≤ k → k < (Utf8.decode s pos).2 → 128 ≤ (s.get! (pos + k)).toNat := by
  simp only [Utf8.decode]
  split
  · exact ⟨by show pos + 1 ≤ _; omega, fun k h1 h2 => absurd h2 (by show ¬ k < 1; omega)⟩
  · split
    · rename_i hc
      simp only [Bool.and_eq_true, decide_eq_true_eq, beq_iff_eq] at hc
      split
      · refine ⟨by show pos + 2 ≤ _; omega, fun k h1 h2 => ?_⟩
        obtain rfl : k = 1 := by have : k < 2 := h2; omega
        omega
      · exact ⟨by show pos + 1 ≤ _; omega, fun k h1 h2 => absurd h2 (by show ¬ k < 1; omega)⟩
    · split
      · rename_i hc
        simp only [Bool.and_eq_true, decide_eq_true_eq, beq_iff_eq] at hc
        split
        · refine ⟨by show pos + 3 ≤ _; omega, fun k h1 h2 => ?_⟩
          have h3 : k < 3 := h2
          rcases (by omega : k = 1 ∨ k = 2) with rfl | rfl
          · omega
          · omega
        · exact ⟨by show pos + 1 ≤ _; omega, fun k h1 h2 => absurd h2 (by show ¬ k < 1; omega)⟩
      · split
        · rename_i hc
          simp only [Bool.and_eq_true, decide_eq_true_eq, beq_iff_eq] at hc
          split
          · refine ⟨by show pos + 4 ≤ _; omega, fun k h1 h2 => ?_⟩
            have h3 : k < 4 := h2
            rcases (by omega : k = 1 ∨ k = 2 ∨ k = 3) with rfl | rfl | rfl
            · omega
            · omega
            · omega
          · exact ⟨by show pos + 1 ≤ _; omega, fun k h1 h2 => absurd h2 (by show ¬ k < 1; omega)⟩
        · exact ⟨by show pos + 1 ≤ _; omega, fun k h1 h2 => absurd h2 (by show ¬ k < 1; omega)⟩

theorem indexByte_mem (c : UInt8) : ∀ l : List UInt8, decide (0 ≤ Lib.indexByte l c) = decide (c ∈ l)
  | [] => by simp [Lib.indexByte]
  | b :: l => by
    have ih := indexByte_mem c l
    unfold Lib.indexByte
    by_cases hb : b = c
    · subst hb; simp
    · rw [if_neg (by simp [hb])]
      by_cases hi : Lib.indexByte l c = -1
      · rw [if_pos (by simp [hi])]
        rw [hi] at ih
        have : c ∉ l := by
          intro hm
          rw [decide_eq_true hm] at ih
          simp at ih
        simp [Ne.symm hb, this]
      · have h1 := Lib.indexByte_ge l c
        rw [if_neg (by simpa using hi)]
        have hm : c ∈ l := by
          rw [decide_eq_true (by omega)] at ih
          simpa using ih.symm
        rw [decide_eq_true (by omega), decide_eq_true (List.mem_cons_of_mem _ hm)]
theorem mem_str (xs : List Int) (ho : Octs xs) : decide ((47 : UInt8) ∈ (strOfNums xs).data.toList) = decide ((47 : Int) ∈ xs) := by
  rw [strOfNums_data]
  apply decide_eq_decide.2
  constructor
  · intro h
    obtain ⟨u, hu, he⟩ := List.mem_map.1 h
    have hr := ho u hu
    have h2 := congrArg UInt8.toNat he
    rw [UInt8.toNat_ofNat'] at h2
    have h3 : (47 : UInt8).toNat = 47 := rfl
    have : u = 47 := by omega
    exact this ▸ hu
  · intro h
    exact List.mem_map.2 ⟨47, h, rfl⟩

theorem Contains_any (xs : List Int) (ho : Octs xs) (w : World) :
    Calls Tryd.prog 31 #[.string (strOfNums xs), .string ⟨#[47]⟩] w fun e w' => e = .returned (.bool (decide ((47 : Int) ∈ xs))) ∧ w' = w := by
  have h := Any.strings_Contains_one Tryd.laysContains (strOfNums xs) 47 w
  rw [indexByte_mem, mem_str xs ho] at h
  exact h
theorem Valid_any (xs : List Int) (w : World) (hs : xs.length ≤ 9223372036854775807) (hT : Tabs w) :
    Calls Tryd.prog 54 #[.string (strOfNums xs)] w fun e w' => e = .returned (.bool (utfB xs)) ∧ Kept [] w w' := by
  have h := Any.utf8_ValidString Tryd.laysValid (strOfNums xs) w (by rw [strOfNums_size]; exact hs) hT
  exact h.mono fun e w' h => ⟨h.1, kept_of_below h.2⟩

set_option maxRecDepth 100000 in
set_option maxHeartbeats 1000000 in
theorem goodLine_any (xs : List Int) (ho : Octs xs) (most : Int) (w : World) (hs : xs.length ≤ 9223372036854775807) (hT : Tabs w) :
    Calls Tryd.prog 30 #[.string (strOfNums xs), .int .i64 most] w fun e w' => e = .returned (.bool (lineB xs most)) ∧ Kept [] w w' := by
  have hval := Valid_any xs w hs hT
  have hsz := strOfNums_size xs
  have HAT : Hid (∀ p (h : p < xs.length) (h2 : p < (strOfNums xs).size), ((strOfNums xs)[p]'h2).toNat = (xs[p]'h).toNat) := fun p h _ => str_at xs ho p h
  have HO : Hid (Octs xs) := ho
  clear hT ho
  by_cases hm : (xs.length : Int) ≤ most
  · by_cases hu : utfB xs = true
    · rw [hu] at hval
      have HL : Hid (lineB xs most = xs.all okByte) := by
        have : lineB xs most = xs.all okByte := by unfold lineB; rw [decide_eq_true hm, hu]; rfl
        exact this
      have hgt : decide (most < (xs.length : Int)) = false := decide_eq_false (by omega)
      clear hu hm
      generalize strOfNums xs = S at *
      go_enter Tryd.func30, Tryd.ntmps30
      go_wp2_with (go_at_call 54; refine hval.mono ?_; rintro e w1 ⟨rfl, hk1⟩; have HK1 : Hid _ := hk1; clear hk1)
      go_loopw [6] (fun _ wr => ∃ p : Nat, p ≤ xs.length ∧ wr = w1.iter S p ∧ Hid (∀ i (h : i < xs.length), i < p → okByte xs[i] = true)) (fun _ wr => xs.length - wr.iterPos w1.heap.size)
      case atStart => exact ⟨0, Nat.zero_le _, rfl, fun i _ h => absurd h (by omega)⟩
      case round =>
        obtain ⟨p, hp, rfl, HP⟩ := hrel
        have HKW : Hid (∀ q, Kept [] w (w1.iter S q)) := fun q => HK1.out.alloc _
        by_cases hlt : p < xs.length
        · have hps : p < S.size := by omega
          have hz := HO.out xs[p] (List.getElem_mem hlt)
          by_cases ha : xs[p] < 128
          · have hnx : ∀ ty, (Instr.next (.pointer (some ⟨w1.heap.size, 0, none⟩)) true ty).run Tryd.prog (w1.iter S p) = .ok (.tuple #[.bool true, .int .i64 p, .int .i32 xs[p]]) (w1.iter S (p + 1)) := fun ty => by
              have h := run_next_ascii (P := Tryd.prog) w1 S p ty hps (by rw [HAT.out p hlt hps]; omega)
              rw [HAT.out p hlt hps, Int.toNat_of_nonneg hz.1] at h
              exact h
            by_cases hk : okByte xs[p] = true
            · have HP' : Hid (∀ i (h : i < xs.length), i < p + 1 → okByte xs[i] = true) := fun i h hi => by
                by_cases hip : i = p
                · subst hip; exact hk
                · exact HP.out i h (by omega)
              unfold okByte at hk
              simp only [Bool.and_eq_true, decide_eq_true_eq, Bool.not_eq_true', decide_eq_false_iff_not] at hk
              have hd1 : decide (xs[p] < 32) = false := decide_eq_false (by omega)
              have hd2 : (xs[p] == 127) = false := beq_eq_false_iff_ne.2 hk.2
              clear hk
              generalize xs[p] = z at *
              go_wp2
              go_roundw
              case rel => exact ⟨p + 1, by omega, rfl, HP'⟩
              case measure => simp; omega
            · have HF : Hid (lineB xs most = false) := by
                rw [HL.out]
                have : xs.all okByte = false := by
                  rw [List.all_eq_false]
                  exact ⟨xs[p], List.getElem_mem hlt, hk⟩
                exact this
              have hk2 : decide (xs[p] < 32) = true ∨ decide (xs[p] < 32) = false ∧ (xs[p] == 127) = true := by
                unfold okByte at hk
                simp at hk
                by_cases h32 : xs[p] < 32
                · exact Or.inl (decide_eq_true h32)
                · exact Or.inr ⟨decide_eq_false h32, by rw [hk (by omega)]; rfl⟩
              clear hk
              generalize xs[p] = z at *
              rcases hk2 with h1 | ⟨h1, h2⟩
              · go_wp2
                go_ret
                exact ⟨by rw [HF.out]; rfl, HKW.out _⟩
              · go_wp2
                go_ret
                exact ⟨by rw [HF.out]; rfl, HKW.out _⟩
          · have hge : 128 ≤ (S[p]'hps).toNat := by rw [HAT.out p hlt hps]; omega
            obtain ⟨hd1, hd2⟩ := decode_high S p hps hge
            obtain ⟨hw1, hw2⟩ := width_high S p hps
            have hle := decode_le S p
            have hnx : ∀ ty, (Instr.next (.pointer (some ⟨w1.heap.size, 0, none⟩)) true ty).run Tryd.prog (w1.iter S p) = .ok (.tuple #[.bool true, .int .i64 p, .int .i32 (Utf8.decode S p).1]) (w1.iter S (p + (Utf8.decode S p).2)) := fun ty => run_next_any (P := Tryd.prog) w1 S p ty hps
            have HP' : Hid (∀ i (h : i < xs.length), i < p + (Utf8.decode S p).2 → okByte xs[i] = true) := fun i h hi => by
              have big : 128 ≤ xs[i] → okByte xs[i] = true := fun hb => by
                unfold okByte
                rw [decide_eq_true (by omega), decide_eq_false (by omega)]
                rfl
              rcases Nat.lt_trichotomy i p with hip | hip | hip
              · exact HP.out i h hip
              · subst hip; exact big (by omega)
              · refine big ?_
                have h3 := hw2 (i - p) (by omega) (by omega)
                have his : i < S.size := by omega
                rw [show p + (i - p) = i by omega, get_of S i his, HAT.out i h his] at h3
                omega
            generalize (Utf8.decode S p).1 = rv at *
            generalize (Utf8.decode S p).2 = n at *
            have hx1 : decide ((rv : Int) < 32) = false := decide_eq_false (by omega)
            have hx2 : ((rv : Int) == 127) = false := beq_eq_false_iff_ne.2 (by omega)
            clear hw2 hge ha hz
            go_wp2
            go_roundw
            case rel => exact ⟨p + n, by omega, rfl, HP'⟩
            case measure => simp; omega
        · have hps : ¬ p < S.size := by omega
          have hnx : ∀ ty, (Instr.next (.pointer (some ⟨w1.heap.size, 0, none⟩)) true ty).run Tryd.prog (w1.iter S p) = .ok (.tuple #[.bool false]) (w1.iter S p) := fun ty => run_next_end (P := Tryd.prog) w1 S p ty hps
          have HT : Hid (lineB xs most = true) := by
            rw [HL.out]
            have : xs.all okByte = true := by
              rw [List.all_eq_true]
              intro u hu
              obtain ⟨i, hi, rfl⟩ := List.getElem_of_mem hu
              exact HP.out i hi (by omega)
            exact this
          go_wp2
          go_ret
          exact ⟨by rw [HT.out]; rfl, HKW.out _⟩
    · have hu' : utfB xs = false := by simpa using hu
      rw [hu'] at hval
      have HF : Hid (lineB xs most = false) := by
        have : lineB xs most = false := by unfold lineB; rw [hu']; simp
        exact this
      have hgt : decide (most < (xs.length : Int)) = false := decide_eq_false (by omega)
      clear hu hm hu'
      generalize strOfNums xs = S at *
      go_enter Tryd.func30, Tryd.ntmps30
      go_wp2_with (go_at_call 54; refine hval.mono ?_; rintro e w1 ⟨rfl, hk1⟩; have HK1 : Hid _ := hk1; clear hk1)
      go_ret
      exact ⟨by rw [HF.out]; rfl, HK1.out⟩
  · have HF : Hid (lineB xs most = false) := by
      have : lineB xs most = false := by unfold lineB; rw [decide_eq_false hm]; simp
      exact this
    have hgt : decide (most < (xs.length : Int)) = true := decide_eq_true (by omega)
    clear hm hval
    generalize strOfNums xs = S at *
    go_enter Tryd.func30, Tryd.ntmps30
    go_wp2
    go_ret
    exact ⟨by rw [HF.out]; rfl, Kept.refl _ _⟩

theorem str_list (xs : List Int) (l : List UInt8) (ys : List Int) (hx : Octs xs) (hy : Octs ys) (hl : (strOfNums ys).data.toList = l) : ((strOfNums xs).toList = l) ↔ xs = ys := by
  rw [Lib.strOfNums_toList]
  constructor
  · intro e
    refine (strOfNums_inj hx hy).1 ?_
    have e2 : (strOfNums xs).data.toList = (strOfNums ys).data.toList := by rw [hl]; exact e
    cases hA : strOfNums xs with
    | mk d1 =>
      cases hB : strOfNums ys with
      | mk d2 =>
        rw [hA, hB] at e2
        have : d1 = d2 := by
          cases d1; cases d2
          simpa using e2
        rw [this]
  · rintro rfl
    exact hl

set_option maxRecDepth 100000 in
set_option maxHeartbeats 1000000 in
theorem Name_any (xs : List Int) (ho : Octs xs) (w : World) (hs : xs.length ≤ 9223372036854775807) (hT : Tabs w) :
    Calls Tryd.prog 17 #[.string (strOfNums xs)] w fun e w' => e = .returned (.bool (nameB xs)) ∧ Kept [] w w' := by
  have hline := goodLine_any xs ho 255 w hs hT
  have hcon := fun W => Contains_any xs ho W
  have h0 := str_list xs [] [] ho (fun u hu => by simp at hu) rfl
  have h1 := str_list xs [46] [46] ho (fun u hu => by simp at hu; omega) rfl
  have h2 := str_list xs [46, 46] [46, 46] ho (fun u hu => by simp at hu; omega) rfl
  clear hT ho
  generalize strOfNums xs = S at *
  by_cases c0 : xs = []
  · have HN : Hid (nameB xs = false) := by
      have : nameB xs = false := by unfold nameB; rw [decide_eq_true c0]; rfl
      exact this
    have p0 := h0.2 c0
    clear h0 h1 h2 hline hcon c0
    go_enter Tryd.func17, Tryd.ntmps17
    go_wp2
    go_ret
    exact ⟨by rw [HN.out]; rfl, Kept.refl _ _⟩
  · have p0 : ¬ S.toList = [] := fun e => c0 (h0.1 e)
    by_cases c1 : xs = [46]
    · have HN : Hid (nameB xs = false) := by
        have : nameB xs = false := by unfold nameB; rw [decide_eq_true c1]; simp
        exact this
      have p1 := h1.2 c1
      clear h0 h1 h2 hline hcon c0 c1 p0
      go_enter Tryd.func17, Tryd.ntmps17
      go_wp2
      go_ret
      exact ⟨by rw [HN.out]; rfl, Kept.refl _ _⟩
    · have p1 : ¬ S.toList = [46] := fun e => c1 (h1.1 e)
      by_cases c2 : xs = [46, 46]
      · have HN : Hid (nameB xs = false) := by
          have : nameB xs = false := by unfold nameB; rw [decide_eq_true c2]; simp
          exact this
        have p2 := h2.2 c2
        clear h0 h1 h2 hline hcon c0 c1 c2 p0 p1
        go_enter Tryd.func17, Tryd.ntmps17
        go_wp2
        go_ret
        exact ⟨by rw [HN.out]; rfl, Kept.refl _ _⟩
      · have p2 : ¬ S.toList = [46, 46] := fun e => c2 (h2.1 e)
        have HN : Hid (nameB xs = (lineB xs 255 && !decide (47 ∈ xs))) := by
          have : nameB xs = (lineB xs 255 && !decide (47 ∈ xs)) := by unfold nameB; rw [decide_eq_false c0, decide_eq_false c1, decide_eq_false c2]; rfl
          exact this
        clear h0 h1 h2 c0 c1 c2
        generalize lineB xs 255 = b3 at *
        generalize decide (47 ∈ xs) = b4 at *
        cases b3
        · go_enter Tryd.func17, Tryd.ntmps17
          go_wp2_with (go_at_call 30; refine hline.mono ?_; rintro e w1 ⟨rfl, hk1⟩; have HK1 : Hid _ := hk1; clear hk1)
          go_ret
          exact ⟨by rw [HN.out]; rfl, HK1.out⟩
        · go_enter Tryd.func17, Tryd.ntmps17
          go_wp2_with (first
            | (go_at_call 30; refine hline.mono ?_; rintro e w1 ⟨rfl, hk1⟩; have HK1 : Hid _ := hk1; clear hk1)
            | (go_at_call 31; refine (hcon _).mono ?_; rintro e w2 ⟨rfl, hw2⟩; subst w2))
          go_ret
          exact ⟨by rw [HN.out]; simp [p0, p1, p2], HK1.out⟩
end Go.Proofs.YtnfbiemmdaenpaaDoor
