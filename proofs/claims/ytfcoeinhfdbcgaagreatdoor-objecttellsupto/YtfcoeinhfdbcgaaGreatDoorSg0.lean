/-
  THE LIBRARY's CONTRACTS that are used here, laid at this program in plain words (by the guide's lay-plain): the table of numbers, and a field a fact.
  WALKS: object.goodLine, object.Name: for every text.
  PLAIN MATHEMATICS: signs of UTF-8 as the document tells them, held against the library's decoder.
-/
import Derived.Test.YtfcoeinhfdbcgaaGreatDoorProg
import Derived.Shelf.Unicode.ValidAny
import Derived.Shelf.Strings.Search3
import Derived.Test.YtfcoeinhfdbcgaaGreatDoorRows0
import Derived.Laws.RangeAny
import Derived.Lib.ValidU
import Derived.Lib.Bytes
import Derived.Test.YtfcoeinhfdbcgaaGreatDoorHd
namespace Go.Proofs
open Go.Shelf
def Tryz.laysValid_ren : Go.Shelf.Ren := ⟨fun | 196 => 51 | 259 => 78 | n => n, fun | 9 => 9 | 4 => 4 | 3 => 3 | 5 => 5 | 12 => 12 | 119 => 136 | 0 => 0 | 46 => 121 | 139 => 139 | 138 => 138 | 53 => 31 | n => n, fun | 3 => 1 | 4 => 2 | n => n⟩
theorem Tryz.laysValid : Go.Proofs.Lays.n196 Tryz.prog Tryz.laysValid_ren := {
  mixed := by kernel_rfl
  f196 := Tryz.func51.trans (congrArg some (by kernel_rfl))
  f259 := Tryz.func78.trans (congrArg some (by kernel_rfl))
  t0 := Tryz.underlying0
  a0 := Tryz.isAgg0
  z0 := Tryz.sizeOf0
  v0 := Tryz.zeroValue0
  t3 := Tryz.underlying3
  a3 := Tryz.isAgg3
  z3 := Tryz.sizeOf3
  v3 := Tryz.zeroValue3
  t4 := Tryz.underlying4
  a4 := Tryz.isAgg4
  z4 := Tryz.sizeOf4
  v4 := Tryz.zeroValue4
  t5 := Tryz.underlying5
  a5 := Tryz.isAgg5
  z5 := Tryz.sizeOf5
  v5 := Tryz.zeroValue5
  t9 := Tryz.underlying9
  a9 := Tryz.isAgg9
  z9 := Tryz.sizeOf9
  v9 := Tryz.zeroValue9
  t12 := Tryz.underlying12
  a12 := Tryz.isAgg12
  z12 := Tryz.sizeOf12
  v12 := Tryz.zeroValue12
  t46 := Tryz.underlying121
  a46 := Tryz.isAgg121
  z46 := Tryz.sizeOf121
  v46 := Tryz.zeroValue121
  t53 := Tryz.underlying31
  a53 := Tryz.isAgg31
  z53 := Tryz.sizeOf31
  v53 := Tryz.zeroValue31
  t119 := Tryz.underlying136
  a119 := Tryz.isAgg136
  z119 := Tryz.sizeOf136
  t138 := Tryz.underlying138
  a138 := Tryz.isAgg138
  z138 := Tryz.sizeOf138
  v138 := Tryz.zeroValue138
  t139 := Tryz.underlying139
  a139 := Tryz.isAgg139
  z139 := Tryz.sizeOf139
  v139 := Tryz.zeroValue139
  g3 := by kernel_rfl
  g4 := by kernel_rfl }
def Tryz.laysContains_ren : Go.Shelf.Ren := ⟨fun | 144 => 32 | 143 => 52 | 219 => 79 | 217 => 85 | 225 => 86 | 224 => 87 | 267 => 88 | 266 => 95 | 314 => 96 | n => n, fun | 9 => 9 | 4 => 4 | 3 => 3 | 5 => 5 | 46 => 121 | 146 => 159 | 51 => 140 | n => n, fun | 1 => 5 | n => n⟩
theorem Tryz.laysContains : Go.Proofs.Lays.n144 Tryz.prog Tryz.laysContains_ren := {
  mixed := by kernel_rfl
  f143 := Tryz.func52.trans (congrArg some (by kernel_rfl))
  f144 := Tryz.func32.trans (congrArg some (by kernel_rfl))
  f217 := Tryz.func85.trans (congrArg some (by kernel_rfl))
  f219 := Tryz.func79.trans (congrArg some (by kernel_rfl))
  f224 := Tryz.func87.trans (congrArg some (by kernel_rfl))
  f225 := Tryz.func86.trans (congrArg some (by kernel_rfl))
  f266 := Tryz.func95.trans (congrArg some (by kernel_rfl))
  f267 := Tryz.func88.trans (congrArg some (by kernel_rfl))
  f314 := Tryz.func96.trans (congrArg some (by kernel_rfl))
  t3 := Tryz.underlying3
  a3 := Tryz.isAgg3
  z3 := Tryz.sizeOf3
  v3 := Tryz.zeroValue3
  t4 := Tryz.underlying4
  a4 := Tryz.isAgg4
  z4 := Tryz.sizeOf4
  v4 := Tryz.zeroValue4
  t5 := Tryz.underlying5
  a5 := Tryz.isAgg5
  z5 := Tryz.sizeOf5
  v5 := Tryz.zeroValue5
  t9 := Tryz.underlying9
  a9 := Tryz.isAgg9
  z9 := Tryz.sizeOf9
  v9 := Tryz.zeroValue9
  t46 := Tryz.underlying121
  a46 := Tryz.isAgg121
  z46 := Tryz.sizeOf121
  v46 := Tryz.zeroValue121
  t51 := Tryz.underlying140
  a51 := Tryz.isAgg140
  z51 := Tryz.sizeOf140
  v51 := Tryz.zeroValue140
  t146 := Tryz.underlying159
  a146 := Tryz.isAgg159
  z146 := Tryz.sizeOf159
  v146 := Tryz.zeroValue159
  g1 := by kernel_rfl }
end Go.Proofs

namespace Go.Proofs.YtfcoeinhfdbcgaaGreatDoor
open Go.RowKit

/-- The library's two tables of UTF-8 lie in memory. -/
def Tabs (w : World) : Prop := Lib.Utf8Tabs (Tryz.laysValid_ren.g 3) (Tryz.laysValid_ren.g 4) w

/-- Bytes that may stand on one line. -/
def okByte (b : Int) : Bool := decide (32 ≤ b) && !decide (b = 127)
def utfB (xs : List Int) : Bool := Lib.validD (strOfNums xs).data.toList
def lineB (xs : List Int) (most : Int) : Bool := decide ((xs.length : Int) ≤ most) && utfB xs && xs.all okByte
def nameB (xs : List Int) : Bool := !decide (xs = []) && !decide (xs = [46]) && !decide (xs = [46, 46]) && lineB xs 255 && !decide (47 ∈ xs)

theorem str_at (xs : List Int) (ho : Octs xs) (p : Nat) (h : p < xs.length) : ((strOfNums xs)[p]'(by rw [strOfNums_size]; exact h)).toNat = (xs[p]'h).toNat := by
  have h1 := ho xs[p] (List.getElem_mem h)
  have e : (strOfNums xs)[p]'(by rw [strOfNums_size]; exact h) = UInt8.ofNat (xs[p]'h).toNat := by
    show (strOfNums xs).data[p]'_ = _
    simp [strOfNums]
  rw [e, UInt8.toNat_ofNat']
  omega
theorem get_of (s : ByteArray) (p : Nat) (h : p < s.size) : s.get! p = s[p]'h := by
  simp [ByteArray.get!, getElem!_pos, h]
  rfl
theorem width_pos (s : ByteArray) (pos : Nat) (h : pos < s.size) : 1 ≤ (Utf8.decode s pos).2 := by
  by_cases ha : (s[pos]'h).toNat < 128
  · rw [decode_ascii s pos h ha]
    exact Nat.le_refl _
  · exact (decode_high s pos h (by omega)).2
/-- What a rune takes besides its first byte are bytes above 127. -/
theorem width_high (s : ByteArray) (pos : Nat) (h : pos < s.size) : pos + (Utf8.decode s pos).2 ≤ s.size ∧ ∀ k, 1 ≤ k → k < (Utf8.decode s pos).2 → 128 ≤ (s.get! (pos + k)).toNat := by
  simp only [Utf8.decode]
  split
  · exact ⟨by show pos + 1 ≤ _; omega, fun k h1 h2 => absurd h2 (by show ¬ k < 1; omega)⟩
  · split
    · rename_i hc
      simp only [Bool.and_eq_true, decide_eq_true_eq, beq_iff_eq] at hc
      split
      · refine ⟨by show pos + 2 ≤ _; omega, fun k h1 h2 => ?_⟩
        obtain rfl : k = 1 := by have : k < 2 := h2; omega
        omega
      · exact ⟨by show pos + 1 ≤ _; omega, fun k h1 h2 => absurd h2 (by show ¬ k < 1; omega)⟩
    · split
      · rename_i hc
        simp only [Bool.and_eq_true, decide_eq_true_eq, beq_iff_eq] at hc
        split
        · refine ⟨by show pos + 3 ≤ _; omega, fun k h1 h2 => ?_⟩
          have h3 : k < 3 := h2
          rcases (by omega : k = 1 ∨ k = 2) with rfl | rfl
          · omega
          · omega
        · exact ⟨by show pos + 1 ≤ _; omega, fun k h1 h2 => absurd h2 (by show ¬ k < 1; omega)⟩
      · split
        · rename_i hc
          simp only [Bool.and_eq_true, decide_eq_true_eq, beq_iff_eq] at hc
          split
          · refine ⟨by show pos + 4 ≤ _; omega, fun k h1 h2 => ?_⟩
            have h3 : k < 4 := h2
            rcases (by omega : k = 1 ∨ k = 2 ∨ k = 3) with rfl | rfl | rfl
            · omega
            · omega
            · omega
          · exact ⟨by show pos + 1 ≤ _; omega, fun k h1 h2 => absurd h2 (by show ¬ k < 1; omega)⟩
        · exact ⟨by show pos + 1 ≤ _; omega, fun k h1 h2 => absurd h2 (by show ¬ k < 1; omega)⟩

theorem indexByte_mem (c : UInt8) : ∀ l : List UInt8, decide (0 ≤ Lib.indexByte l c) = decide (c ∈ l)
  | [] => by simp [Lib.indexByte]
  | b :: l => by
    have ih := indexByte_mem c l
    unfold Lib.indexByte
    by_cases hb : b = c
    · subst hb; simp
    · rw [if_neg (by simp [hb])]
      by_cases hi : Lib.indexByte l c = -1
      · rw [if_pos (by simp [hi])]
        rw [hi] at ih
        have : c ∉ l := by
          intro hm
          rw [decide_eq_true hm] at ih
          simp at ih
        simp [Ne.symm hb, this]
      · have h1 := Lib.indexByte_ge l c
        rw [if_neg (by simpa using hi)]
        have hm : c ∈ l := by
          rw [decide_eq_true (by omega)] at ih
          simpa using ih.symm
        rw [decide_eq_true (by omega), decide_eq_true (List.mem_cons_of_mem _ hm)]
theorem mem_str (xs : List Int) (ho : Octs xs) : decide ((47 : UInt8) ∈ (strOfNums xs).data.toList) = decide ((47 : Int) ∈ xs) := by
  rw [strOfNums_data]
  apply decide_eq_decide.2
  constructor
  · intro h
    obtain ⟨u, hu, he⟩ := List.mem_map.1 h
    have hr := ho u hu
    have h2 := congrArg UInt8.toNat he
    rw [UInt8.toNat_ofNat'] at h2
    have h3 : (47 : UInt8).toNat = 47 := rfl
    have : u = 47 := by omega
    exact this ▸ hu
  · intro h
    exact List.mem_map.2 ⟨47, h, rfl⟩

theorem Contains_any (xs : List Int) (ho : Octs xs) (w : World) :
    Calls Tryz.prog 32 #[.string (strOfNums xs), .string ⟨#[47]⟩] w fun e w' => e = .returned (.bool (decide ((47 : Int) ∈ xs))) ∧ w' = w := by
  have h := Any.strings_Contains_one Tryz.laysContains (strOfNums xs) 47 w
  rw [indexByte_mem, mem_str xs ho] at h
  exact h
theorem Valid_any (xs : List Int) (w : World) (hs : xs.length ≤ 9223372036854775807) (hT : Tabs w) :
    Calls Tryz.prog 51 #[.string (strOfNums xs)] w fun e w' => e = .returned (.bool (utfB xs)) ∧ Kept [] w w' := by
  have h := Any.utf8_ValidString Tryz.laysValid (strOfNums xs) w (by rw [strOfNums_size]; exact hs) hT
  exact h.mono fun e w' h => ⟨h.1, kept_of_below h.2⟩

set_option maxRecDepth 100000 in
set_option maxHeartbeats 1000000 in
theorem goodLine_any (xs : List Int) (ho : Octs xs) (most : Int) (w : World) (hs : xs.length ≤ 9223372036854775807) (hT : Tabs w) :
    Calls Tryz.prog 31 #[.string (strOfNums xs), .int .i64 most] w fun e w' => e = .returned (.bool (lineB xs most)) ∧ Kept [] w w' := by
  have hval := Valid_any xs w hs hT
  have hsz := strOfNums_size xs
  have HAT : Hid (∀ p (h : p < xs.length) (h2 : p < (strOfNums xs).size), ((strOfNums xs)[p]'h2).toNat = (xs[p]'h).toNat) := fun p h _ => str_at xs ho p h
  have HO : Hid (Octs xs) := ho
  clear hT ho
  by_cases hm : (xs.length : Int) ≤ most
  · by_cases hu : utfB xs = true
    · rw [hu] at hval
      have HL : Hid (lineB xs most = xs.all okByte) := by
        have : lineB xs most = xs.all okByte := by unfold lineB; rw [decide_eq_true hm, hu]; rfl
        exact this
      have hgt : decide (most < (xs.length : Int)) = false := decide_eq_false (by omega)
      clear hu hm
      generalize strOfNums xs = S at *
      go_enter Tryz.func31, Tryz.ntmps31
      go_wp2_with (go_at_call 51; refine hval.mono ?_; rintro e w1 ⟨rfl, hk1⟩; have HK1 : Hid _ := hk1; clear hk1)
      go_loopw [6] (fun _ wr => ∃ p : Nat, p ≤ xs.length ∧ wr = w1.iter S p ∧ Hid (∀ i (h : i < xs.length), i < p → okByte xs[i] = true)) (fun _ wr => xs.length - wr.iterPos w1.heap.size)
      case atStart => exact ⟨0, Nat.zero_le _, rfl, fun i _ h => absurd h (by omega)⟩
      case round =>
        obtain ⟨p, hp, rfl, HP⟩ := hrel
        have HKW : Hid (∀ q, Kept [] w (w1.iter S q)) := fun q => HK1.out.alloc _
        by_cases hlt : p < xs.length
        · have hps : p < S.size := by omega
          have hz := HO.out xs[p] (List.getElem_mem hlt)
          by_cases ha : xs[p] < 128
          · have hnx : ∀ ty, (Instr.next (.pointer (some ⟨w1.heap.size, 0, none⟩)) true ty).run Tryz.prog (w1.iter S p) = .ok (.tuple #[.bool true, .int .i64 p, .int .i32 xs[p]]) (w1.iter S (p + 1)) := fun ty => by
              have h := run_next_ascii (P := Tryz.prog) w1 S p ty hps (by rw [HAT.out p hlt hps]; omega)
              rw [HAT.out p hlt hps, Int.toNat_of_nonneg hz.1] at h
              exact h
            by_cases hk : okByte xs[p] = true
            · have HP' : Hid (∀ i (h : i < xs.length), i < p + 1 → okByte xs[i] = true) := fun i h hi => by
                by_cases hip : i = p
                · subst hip; exact hk
                · exact HP.out i h (by omega)
              unfold okByte at hk
              simp only [Bool.and_eq_true, decide_eq_true_eq, Bool.not_eq_true', decide_eq_false_iff_not] at hk
              have hd1 : decide (xs[p] < 32) = false := decide_eq_false (by omega)
              have hd2 : (xs[p] == 127) = false := beq_eq_false_iff_ne.2 hk.2
              clear hk
              generalize xs[p] = z at *
              go_wp2
              go_roundw
              case rel => exact ⟨p + 1, by omega, rfl, HP'⟩
              case measure => simp; omega
            · have HF : Hid (lineB xs most = false) := by
                rw [HL.out]
                have : xs.all okByte = false := by
                  rw [List.all_eq_false]
                  exact ⟨xs[p], List.getElem_mem hlt, hk⟩
                exact this
              have hk2 : decide (xs[p] < 32) = true ∨ decide (xs[p] < 32) = false ∧ (xs[p] == 127) = true := by
                unfold okByte at hk
                simp at hk
                by_cases h32 : xs[p] < 32
                · exact Or.inl (decide_eq_true h32)
                · exact Or.inr ⟨decide_eq_false h32, by rw [hk (by omega)]; rfl⟩
              clear hk
              generalize xs[p] = z at *
              rcases hk2 with h1 | ⟨h1, h2⟩
              · go_wp2
                go_ret
                exact ⟨by rw [HF.out]; rfl, HKW.out _⟩
              · go_wp2
                go_ret
                exact ⟨by rw [HF.out]; rfl, HKW.out _⟩
          · have hge : 128 ≤ (S[p]'hps).toNat := by rw [HAT.out p hlt hps]; omega
            obtain ⟨hd1, hd2⟩ := decode_high S p hps hge
            obtain ⟨hw1, hw2⟩ := width_high S p hps
            have hle := decode_le S p
            have hnx : ∀ ty, (Instr.next (.pointer (some ⟨w1.heap.size, 0, none⟩)) true ty).run Tryz.prog (w1.iter S p) = .ok (.tuple #[.bool true, .int .i64 p, .int .i32 (Utf8.decode S p).1]) (w1.iter S (p + (Utf8.decode S p).2)) := fun ty => run_next_any (P := Tryz.prog) w1 S p ty hps
            have HP' : Hid (∀ i (h : i < xs.length), i < p + (Utf8.decode S p).2 → okByte xs[i] = true) := fun i h hi => by
              have big : 128 ≤ xs[i] → okByte xs[i] = true := fun hb => by
                unfold okByte
                rw [decide_eq_true (by omega), decide_eq_false (by omega)]
                rfl
              rcases Nat.lt_trichotomy i p with hip | hip | hip
              · exact HP.out i h hip
              · subst hip; exact big (by omega)
              · refine big ?_
                have h3 := hw2 (i - p) (by omega) (by omega)
                have his : i < S.size := by omega
                rw [show p + (i - p) = i by omega, get_of S i his, HAT.out i h his] at h3
                omega
            generalize (Utf8.decode S p).1 = rv at *
            generalize (Utf8.decode S p).2 = n at *
            have hx1 : decide ((rv : Int) < 32) = false := decide_eq_false (by omega)
            have hx2 : ((rv : Int) == 127) = false := beq_eq_false_iff_ne.2 (by omega)
            clear hw2 hge ha hz
            go_wp2
            go_roundw
            case rel => exact ⟨p + n, by omega, rfl, HP'⟩
            case measure => simp; omega
        · have hps : ¬ p < S.size := by omega
          have hnx : ∀ ty, (Instr.next (.pointer (some ⟨w1.heap.size, 0, none⟩)) true ty).run Tryz.prog (w1.iter S p) = .ok (.tuple #[.bool false]) (w1.iter S p) := fun ty => run_next_end (P := Tryz.prog) w1 S p ty hps
          have HT : Hid (lineB xs most = true) := by
            rw [HL.out]
            have : xs.all okByte = true := by
              rw [List.all_eq_true]
              intro u hu
              obtain ⟨i, hi, rfl⟩ := List.getElem_of_mem hu
              exact HP.out i hi (by omega)
            exact this
          go_wp2
          go_ret
          exact ⟨by rw [HT.out]; rfl, HKW.out _⟩
    · have hu' : utfB xs = false := by simpa using hu
      rw [hu'] at hval
      have HF : Hid (lineB xs most = false) := by
        have : lineB xs most = false := by unfold lineB; rw [hu']; simp
        exact this
      have hgt : decide (most < (xs.length : Int)) = false := decide_eq_false (by omega)
      clear hu hm hu'
      generalize strOfNums xs = S at *
      go_enter Tryz.func31, Tryz.ntmps31
      go_wp2_with (go_at_call 51; refine hval.mono ?_; rintro e w1 ⟨rfl, hk1⟩; have HK1 : Hid _ := hk1; clear hk1)
      go_ret
      exact ⟨by rw [HF.out]; rfl, HK1.out⟩
  · have HF : Hid (lineB xs most = false) := by
      have : lineB xs most = false := by unfold lineB; rw [decide_eq_false hm]; simp
      exact this
    have hgt : decide (most < (xs.length : Int)) = true := decide_eq_true (by omega)
    clear hm hval
    generalize strOfNums xs = S at *
    go_enter Tryz.func31, Tryz.ntmps31
    go_wp2
    go_ret
    exact ⟨by rw [HF.out]; rfl, Kept.refl _ _⟩

theorem str_list (xs : List Int) (l : List UInt8) (ys : List Int) (hx : Octs xs) (hy : Octs ys) (hl : (strOfNums ys).data.toList = l) : ((strOfNums xs).toList = l) ↔ xs = ys := by
  rw [Lib.strOfNums_toList]
  constructor
  · intro e
    refine (strOfNums_inj hx hy).1 ?_
    have e2 : (strOfNums xs).data.toList = (strOfNums ys).data.toList := by rw [hl]; exact e
    cases hA : strOfNums xs with
    | mk d1 =>
      cases hB : strOfNums ys with
      | mk d2 =>
        rw [hA, hB] at e2
        have : d1 = d2 := by
          cases d1; cases d2
          simpa using e2
        rw [this]
  · rintro rfl
    exact hl

set_option maxRecDepth 100000 in
set_option maxHeartbeats 1000000 in
theorem Name_any (xs : List Int) (ho : Octs xs) (w : World) (hs : xs.length ≤ 9223372036854775807) (hT : Tabs w) :
    Calls Tryz.prog 12 #[.string (strOfNums xs)] w fun e w' => e = .returned (.bool (nameB xs)) ∧ Kept [] w w' := by
  have hline := goodLine_any xs ho 255 w hs hT
  have hcon := fun W => Contains_any xs ho W
  have h0 := str_list xs [] [] ho (fun u hu => by simp at hu) rfl
  have h1 := str_list xs [46] [46] ho (fun u hu => by simp at hu; omega) rfl
  have h2 := str_list xs [46, 46] [46, 46] ho (fun u hu => by simp at hu; omega) rfl
  clear hT ho
  generalize strOfNums xs = S at *
  by_cases c0 : xs = []
  · have HN : Hid (nameB xs = false) := by
      have : nameB xs = false := by unfold nameB; rw [decide_eq_true c0]; rfl
      exact this
    have p0 := h0.2 c0
    clear h0 h1 h2 hline hcon c0
    go_enter Tryz.func12, Tryz.ntmps12
    go_wp2
    go_ret
    exact ⟨by rw [HN.out]; rfl, Kept.refl _ _⟩
  · have p0 : ¬ S.toList = [] := fun e => c0 (h0.1 e)
    by_cases c1 : xs = [46]
    · have HN : Hid (nameB xs = false) := by
        have : nameB xs = false := by unfold nameB; rw [decide_eq_true c1]; simp
        exact this
      have p1 := h1.2 c1
      clear h0 h1 h2 hline hcon c0 c1 p0
      go_enter Tryz.func12, Tryz.ntmps12
      go_wp2
      go_ret
      exact ⟨by rw [HN.out]; rfl, Kept.refl _ _⟩
    · have p1 : ¬ S.toList = [46] := fun e => c1 (h1.1 e)
      by_cases c2 : xs = [46, 46]
      · have HN : Hid (nameB xs = false) := by
          have : nameB xs = false := by unfold nameB; rw [decide_eq_true c2]; simp
          exact this
        have p2 := h2.2 c2
        clear h0 h1 h2 hline hcon c0 c1 c2 p0 p1
        go_enter Tryz.func12, Tryz.ntmps12
        go_wp2
        go_ret
        exact ⟨by rw [HN.out]; rfl, Kept.refl _ _⟩
      · have p2 : ¬ S.toList = [46, 46] := fun e => c2 (h2.1 e)
        have HN : Hid (nameB xs = (lineB xs 255 && !decide (47 ∈ xs))) := by
          have : nameB xs = (lineB xs 255 && !decide (47 ∈ xs)) := by unfold nameB; rw [decide_eq_false c0, decide_eq_false c1, decide_eq_false c2]; rfl
          exact this
        clear h0 h1 h2 c0 c1 c2
        generalize lineB xs 255 = b3 at *
        generalize decide (47 ∈ xs) = b4 at *
        cases b3
        · go_enter Tryz.func12, Tryz.ntmps12
          go_wp2_with (go_at_call 31; refine hline.mono ?_; rintro e w1 ⟨rfl, hk1⟩; have HK1 : Hid _ := hk1; clear hk1)
          go_ret
          exact ⟨by rw [HN.out]; rfl, HK1.out⟩
        · go_enter Tryz.func12, Tryz.ntmps12
          go_wp2_with (first
            | (go_at_call 31; refine hline.mono ?_; rintro e w1 ⟨rfl, hk1⟩; have HK1 : Hid _ := hk1; clear hk1)
            | (go_at_call 32; refine (hcon _).mono ?_; rintro e w2 ⟨rfl, hw2⟩; subst w2))
          go_ret
          exact ⟨by rw [HN.out]; simp [p0, p1, p2], HK1.out⟩
end Go.Proofs.YtfcoeinhfdbcgaaGreatDoor

namespace Go.Proofs.YtfcoeinhfdbcgaaGreatDoor
open Go.RowKit

def tlB (xs : List Int) (k : Nat) (lo hi : Int) : Bool := decide (k < xs.length) && decide (lo ≤ xs.getD k 0) && decide (xs.getD k 0 ≤ hi)
/-- How many bytes the sign at the front takes; 0: none is there. -/
def signN (xs : List Int) : Nat :=
  if xs.getD 0 0 < 128 then 1
  else if 194 ≤ xs.getD 0 0 ∧ xs.getD 0 0 ≤ 223 then (if tlB xs 1 128 191 = true then 2 else 0)
  else if 224 ≤ xs.getD 0 0 ∧ xs.getD 0 0 ≤ 239 then (if tlB xs 1 (if xs.getD 0 0 = 224 then 160 else 128) (if xs.getD 0 0 = 237 then 159 else 191) = true ∧ tlB xs 2 128 191 = true then 3 else 0)
  else if 240 ≤ xs.getD 0 0 ∧ xs.getD 0 0 ≤ 244 then (if tlB xs 1 (if xs.getD 0 0 = 240 then 144 else 128) (if xs.getD 0 0 = 244 then 143 else 191) = true ∧ tlB xs 2 128 191 = true ∧ tlB xs 3 128 191 = true then 4 else 0)
  else 0

theorem byte_get (xs : List Int) (ho : Octs xs) (k : Nat) (hk : k < xs.length) : ((⟨((strOfNums xs).data.toList).toArray⟩ : ByteArray).get! (0 + k)).toNat = (xs.getD k 0).toNat := by
  have h1 := ho xs[k] (List.getElem_mem hk)
  have e : ((⟨((strOfNums xs).data.toList).toArray⟩ : ByteArray)) = strOfNums xs := by rw [Array.toArray_toList]
  rw [e, Nat.zero_add, get_of _ k (by rw [strOfNums_size]; exact hk), str_at xs ho k hk]
  simp [List.getD_eq_getElem?_getD, List.getElem?_eq_getElem hk]
theorem bytes_size (xs : List Int) : ((⟨((strOfNums xs).data.toList).toArray⟩ : ByteArray)).size = xs.length := by
  have e : ((⟨((strOfNums xs).data.toList).toArray⟩ : ByteArray)) = strOfNums xs := by rw [Array.toArray_toList]
  rw [e, strOfNums_size]

theorem valid_is (c : Nat) : Utf8.valid (c : Int) = decide ((c < 55296 ∨ 57344 ≤ c) ∧ c ≤ 1114111) := by
  unfold Utf8.valid
  rw [Bool.eq_iff_iff]
  simp only [Bool.or_eq_true, Bool.and_eq_true, decide_eq_true_eq]
  omega
theorem decode_is (xs : List Int) (ho : Octs xs) (hne : 0 < xs.length) :
    Lib.decodeL ((strOfNums xs).data.toList) = decN xs.length (xs.getD 0 0).toNat (xs.getD 1 0).toNat (xs.getD 2 0).toNat (xs.getD 3 0).toNat := by
  have hg := byte_get xs ho
  have hsz := bytes_size xs
  unfold Lib.decodeL
  generalize (⟨((strOfNums xs).data.toList).toArray⟩ : ByteArray) = S at *
  have e0 := hg 0 hne
  have e := decN_irrel (n := xs.length) (b0 := (xs.getD 0 0).toNat) (hg 1) (hg 2) (hg 3)
  rw [← e]
  unfold Utf8.decode decN
  simp only [e0, hsz, Nat.zero_add] at *
  simp only [Utf8.runeError, valid_is, Bool.and_eq_true, decide_eq_true_eq, beq_iff_eq, and_assoc]
theorem if_cg {b c : Prop} [Decidable b] [Decidable c] {α : Type} {x y u v : α} (h : b ↔ c) (h1 : x = u) (h2 : y = v) : (if b then x else y) = (if c then u else v) := by
  subst h1 h2
  by_cases hc : c
  · rw [if_pos hc, if_pos (h.2 hc)]
  · rw [if_neg hc, if_neg (fun hb => hc (h.1 hb))]
theorem signN_is (xs : List Int) (ho : Octs xs) : signN xs = sgN xs.length (xs.getD 0 0).toNat (xs.getD 1 0).toNat (xs.getD 2 0).toNat (xs.getD 3 0).toNat := by
  have hb : ∀ k, 0 ≤ xs.getD k 0 ∧ xs.getD k 0 ≤ 255 := fun k => by
    rw [List.getD_eq_getElem?_getD]
    exact octs_getD ho k
  have h0 := hb 0
  have h1 := hb 1
  have h2 := hb 2
  have h3 := hb 3
  unfold signN sgN tlB
  generalize xs.getD 0 0 = x0 at *
  generalize xs.getD 1 0 = x1 at *
  generalize xs.getD 2 0 = x2 at *
  generalize xs.getD 3 0 = x3 at *
  obtain ⟨b0, rfl⟩ : ∃ b : Nat, x0 = b := ⟨x0.toNat, by omega⟩
  obtain ⟨b1, rfl⟩ : ∃ b : Nat, x1 = b := ⟨x1.toNat, by omega⟩
  obtain ⟨b2, rfl⟩ : ∃ b : Nat, x2 = b := ⟨x2.toNat, by omega⟩
  obtain ⟨b3, rfl⟩ : ∃ b : Nat, x3 = b := ⟨x3.toNat, by omega⟩
  have c1 : (if (b0 : Int) = 224 then (160 : Int) else 128) = ((if b0 = 224 then 160 else 128 : Nat) : Int) := by split <;> (rename_i h; first | rw [if_pos (by omega)] | rw [if_neg (by omega)]) <;> rfl
  have c2 : (if (b0 : Int) = 237 then (159 : Int) else 191) = ((if b0 = 237 then 159 else 191 : Nat) : Int) := by split <;> (rename_i h; first | rw [if_pos (by omega)] | rw [if_neg (by omega)]) <;> rfl
  have c3 : (if (b0 : Int) = 240 then (144 : Int) else 128) = ((if b0 = 240 then 144 else 128 : Nat) : Int) := by split <;> (rename_i h; first | rw [if_pos (by omega)] | rw [if_neg (by omega)]) <;> rfl
  have c4 : (if (b0 : Int) = 244 then (143 : Int) else 191) = ((if b0 = 244 then 143 else 191 : Nat) : Int) := by split <;> (rename_i h; first | rw [if_pos (by omega)] | rw [if_neg (by omega)]) <;> rfl
  rw [c1, c2, c3, c4]
  simp only [Int.toNat_natCast]
  refine if_cg (by omega) rfl (if_cg (by omega) (if_cg ?_ rfl rfl) (if_cg (by omega) (if_cg ?_ rfl rfl) (if_cg (by omega) (if_cg ?_ rfl rfl) rfl)))
  · simp only [Bool.and_eq_true, decide_eq_true_eq]
    omega
  · simp only [Bool.and_eq_true, decide_eq_true_eq]
    generalize (if b0 = 224 then 160 else 128) = l1
    generalize (if b0 = 237 then 159 else 191) = l2
    omega
  · simp only [Bool.and_eq_true, decide_eq_true_eq]
    generalize (if b0 = 240 then 144 else 128) = l3
    generalize (if b0 = 244 then 143 else 191) = l4
    omega

/-- What the decoder tells of a text's front, by the document's reader of signs. -/
theorem sign_zero (xs : List Int) (ho : Octs xs) (hne : 0 < xs.length) (h : signN xs = 0) : Lib.decodeL ((strOfNums xs).data.toList) = (65533, 1) := by
  have hb : ∀ k, (xs.getD k 0).toNat ≤ 255 := fun k => by
    have := octs_getD ho k
    rw [List.getD_eq_getElem?_getD]
    omega
  rw [decode_is xs ho hne]
  exact (dec_sg _ _ _ _ _ (hb 0) (hb 1) (hb 2) (hb 3)).1 (by rw [← signN_is xs ho]; exact h)
theorem sign_some (xs : List Int) (ho : Octs xs) (hne : 0 < xs.length) (h : signN xs ≠ 0) : (Lib.decodeL ((strOfNums xs).data.toList)).2 = signN xs ∧ ¬ ((Lib.decodeL ((strOfNums xs).data.toList)).1 = 65533 ∧ (Lib.decodeL ((strOfNums xs).data.toList)).2 = 1) := by
  have hb : ∀ k, (xs.getD k 0).toNat ≤ 255 := fun k => by
    have := octs_getD ho k
    rw [List.getD_eq_getElem?_getD]
    omega
  rw [decode_is xs ho hne, signN_is xs ho]
  exact (dec_sg _ _ _ _ _ (hb 0) (hb 1) (hb 2) (hb 3)).2 (by rw [← signN_is xs ho]; exact h)
/-- A sign's bytes behind its first are above 127, and it lies within the text. -/
theorem sign_high (xs : List Int) (h : signN xs ≠ 0) (hne : 0 < xs.length) : signN xs ≤ xs.length ∧ ∀ k, 1 ≤ k → k < signN xs → 128 ≤ xs.getD k 0 := by
  have ht : ∀ k lo hi, 128 ≤ lo → tlB xs k lo hi = true → k < xs.length ∧ 128 ≤ xs.getD k 0 := by
    intro k lo hi hlo hb
    unfold tlB at hb
    simp only [Bool.and_eq_true, decide_eq_true_eq] at hb
    omega
  have hi1 : ∀ c : Int, (128 : Int) ≤ (if c = 224 then 160 else 128) := fun c => by split <;> omega
  have hi2 : ∀ c : Int, (128 : Int) ≤ (if c = 240 then 144 else 128) := fun c => by split <;> omega
  unfold signN at h ⊢
  by_cases c0 : xs.getD 0 0 < 128
  · rw [if_pos c0]
    exact ⟨by omega, fun k h1 h2 => by omega⟩
  rw [if_neg c0] at h ⊢
  by_cases c1 : 194 ≤ xs.getD 0 0 ∧ xs.getD 0 0 ≤ 223
  · rw [if_pos c1] at h ⊢
    by_cases d1 : tlB xs 1 128 191 = true
    · rw [if_pos d1]
      have a1 := ht 1 _ _ (by omega) d1
      refine ⟨by omega, fun k h1 h2 => ?_⟩
      obtain rfl : k = 1 := by omega
      exact a1.2
    · rw [if_neg d1] at h
      exact absurd rfl h
  rw [if_neg c1] at h ⊢
  by_cases c2 : 224 ≤ xs.getD 0 0 ∧ xs.getD 0 0 ≤ 239
  · rw [if_pos c2] at h ⊢
    by_cases d1 : tlB xs 1 (if xs.getD 0 0 = 224 then 160 else 128) (if xs.getD 0 0 = 237 then 159 else 191) = true ∧ tlB xs 2 128 191 = true
    · rw [if_pos d1]
      have a1 := ht 1 _ _ (hi1 _) d1.1
      have a2 := ht 2 _ _ (by omega) d1.2
      refine ⟨by omega, fun k h1 h2 => ?_⟩
      rcases (by omega : k = 1 ∨ k = 2) with rfl | rfl
      · exact a1.2
      · exact a2.2
    · rw [if_neg d1] at h
      exact absurd rfl h
  rw [if_neg c2] at h ⊢
  by_cases c3 : 240 ≤ xs.getD 0 0 ∧ xs.getD 0 0 ≤ 244
  · rw [if_pos c3] at h ⊢
    by_cases d1 : tlB xs 1 (if xs.getD 0 0 = 240 then 144 else 128) (if xs.getD 0 0 = 244 then 143 else 191) = true ∧ tlB xs 2 128 191 = true ∧ tlB xs 3 128 191 = true
    · rw [if_pos d1]
      have a1 := ht 1 _ _ (hi2 _) d1.1
      have a2 := ht 2 _ _ (by omega) d1.2.1
      have a3 := ht 3 _ _ (by omega) d1.2.2
      refine ⟨by omega, fun k h1 h2 => ?_⟩
      rcases (by omega : k = 1 ∨ k = 2 ∨ k = 3) with rfl | rfl | rfl
      · exact a1.2
      · exact a2.2
      · exact a3.2
    · rw [if_neg d1] at h
      exact absurd rfl h
  rw [if_neg c3] at h
  exact absurd rfl h

/-- The document's own reading of a line from a place on: sign by sign. -/
def lineW : Nat → List Int → Bool
  | 0, _ => true
  | f + 1, xs => if xs = [] then true else if signN xs = 0 ∨ okByte (xs.getD 0 0) = false then false else lineW f (xs.drop (signN xs))
theorem str_drop (xs : List Int) (n : Nat) : (strOfNums xs).data.toList.drop n = (strOfNums (xs.drop n)).data.toList := by
  rw [strOfNums_data, strOfNums_data, List.map_drop]
theorem lineW_is : ∀ (f : Nat) (xs : List Int), Octs xs → xs.length ≤ f → lineW f xs = (Lib.validGoD f ((strOfNums xs).data.toList) && xs.all okByte)
  | 0, xs, ho, hl => by
    have e : xs = [] := List.eq_nil_of_length_eq_zero (by omega)
    subst e
    rfl
  | f + 1, xs, ho, hl => by
    by_cases hx : xs = []
    · subst hx
      rfl
    · have hp : 0 < xs.length := List.length_pos_iff.2 hx
      have hne : (strOfNums xs).data.toList ≠ [] := by
        rw [strOfNums_data]
        simpa using hx
      unfold lineW Lib.validGoD
      rw [if_neg hx, if_neg hne]
      by_cases hs : signN xs = 0
      · rw [if_pos (Or.inl hs), sign_zero xs ho hp hs, if_pos ⟨rfl, rfl⟩]
        rfl
      · obtain ⟨h1, h2⟩ := sign_some xs ho hp hs
        obtain ⟨h3, h4⟩ := sign_high xs hs hp
        rw [if_neg h2]
        have hall : xs.all okByte = (okByte (xs.getD 0 0) && (xs.drop (signN xs)).all okByte) := by
          have hd : xs = xs.take (signN xs) ++ xs.drop (signN xs) := (List.take_append_drop _ _).symm
          conv => lhs; rw [hd, List.all_append]
          congr 1
          have ht : ∀ k, k < signN xs → 1 ≤ k → okByte (xs.getD k 0) = true := fun k a b => by
            have h5 := h4 k b a
            generalize xs.getD k 0 = u at h5 ⊢
            unfold okByte
            simp
            omega
          rw [Bool.eq_iff_iff, List.all_eq_true]
          constructor
          · intro h
            refine h _ ?_
            rw [List.mem_take_iff_getElem]
            refine ⟨0, by omega, ?_⟩
            simp [List.getD_eq_getElem?_getD, List.getElem?_eq_getElem hp]
          · intro h u hu
            rw [List.mem_take_iff_getElem] at hu
            obtain ⟨k, hk, rfl⟩ := hu
            have e : xs[k]'(by omega) = xs.getD k 0 := by simp [List.getD_eq_getElem?_getD, List.getElem?_eq_getElem (show k < xs.length by omega)]
            rw [e]
            by_cases k0 : k = 0
            · rw [k0]; exact h
            · exact ht k (by omega) (by omega)
        by_cases hok : okByte (xs.getD 0 0) = false
        · rw [if_pos (Or.inr hok), hall, hok, Bool.false_and, Bool.and_false]
        · rw [if_neg (by rintro (h | h); · exact hs h
                         · exact hok h), h1, str_drop, lineW_is f (xs.drop (signN xs)) (octs_drop ho _) (by rw [List.length_drop]; omega), hall]
          rw [Bool.not_eq_false] at hok
          rw [hok, Bool.true_and]
theorem line_is (xs : List Int) (ho : Octs xs) (most : Int) : lineB xs most = (decide ((xs.length : Int) ≤ most) && lineW xs.length xs) := by
  unfold lineB utfB Lib.validD
  rw [lineW_is xs.length xs ho (Nat.le_refl _), Bool.and_assoc]
  congr 2
  rw [strOfNums_data, List.length_map]
end Go.Proofs.YtfcoeinhfdbcgaaGreatDoor
