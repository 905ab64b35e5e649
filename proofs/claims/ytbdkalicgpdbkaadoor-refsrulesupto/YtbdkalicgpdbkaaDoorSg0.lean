/-
  PLAIN MATHEMATICS: signs of UTF-8 as the document tells them, held against the library's decoder.
-/
import Derived.Test.YtbdkalicgpdbkaaDoorObj1
import Derived.Test.YtbdkalicgpdbkaaDoorSgP
namespace Go.Proofs.YtbdkalicgpdbkaaDoor
open Go.RowKit

def tlB (xs : List Int) (k : Nat) (lo hi : Int) : Bool := decide (k < xs.length) && decide (lo ≤ xs.getD k 0) && decide (xs.getD k 0 ≤ hi)
/-- How many bytes the sign at the front takes; 0: none is there. -/
def signN (xs : List Int) : Nat :=
  if xs.getD 0 0 < 128 then 1
  else if 194 ≤ xs.getD 0 0 ∧ xs.getD 0 0 ≤ 223 then (if tlB xs 1 128 191 = true then 2 else 0)
  else if 224 ≤ xs.getD 0 0 ∧ xs.getD 0 0 ≤ 239 then (if tlB xs 1 (if xs.getD 0 0 = 224 then 160 else 128) (if xs.getD 0 0 = 237 then 159 else 191) = true ∧ tlB xs 2 128 191 = true then 3 else 0)
  else if 240 ≤ xs.getD 0 0 ∧ xs.getD 0 0 ≤ 244 then (if tlB xs 1 (if xs.getD 0 0 = 240 then 144 else 128) (if xs.getD 0 0 = 244 then 143 else 191) = true ∧ tlB xs 2 128 191 = true ∧ tlB xs 3 128 191 = true then 4 else 0)
  else 0

theorem byte_get (xs : List Int) (ho : Octs xs) (k : Nat) (hk : k < xs.length) : ((⟨((strOfNums xs).data.toList).toArray⟩ : ByteArray).get! (0 + k)).toNat = (xs.getD k 0).toNat := by
  have h1 := ho xs[k] (List.getElem_mem hk)
  have e : ((⟨((strOfNums xs).data.toList).toArray⟩ : ByteArray)) = strOfNums xs := by rw [Array.toArray_toList]
  rw [e, Nat.zero_add, get_of _ k (by rw [strOfNums_size]; exact hk), str_at xs ho k hk]
  simp [List.getD_eq_getElem?_getD, List.getElem?_eq_getElem hk]
theorem bytes_size (xs : List Int) : ((⟨((strOfNums xs).data.toList).toArray⟩ : ByteArray)).size = xs.length := by
  have e : ((⟨((strOfNums xs).data.toList).toArray⟩ : ByteArray)) = strOfNums xs := by rw [Array.toArray_toList]
  rw [e, strOfNums_size]

theorem valid_is (c : Nat) : Utf8.valid (c : Int) = decide ((c < 55296 ∨ 57344 ≤ c) ∧ c ≤ 1114111) := by
  unfold Utf8.valid
  rw [Bool.eq_iff_iff]
  simp only [Bool.or_eq_true, Bool.and_eq_true, decide_eq_true_eq]
  omega
theorem decode_is (xs : List Int) (ho : Octs xs) (hne : 0 < xs.length) :
    Lib.decodeL ((strOfNums xs).data.toList) = decN xs.length (xs.getD 0 0).toNat (xs.getD 1 0).toNat (xs.getD 2 0).toNat (xs.getD 3 0).toNat := by
  have hg := byte_get xs ho
  have hsz := bytes_size xs
  unfold Lib.decodeL
  generalize (⟨((strOfNums xs).data.toList).toArray⟩ : ByteArray) = S at *
  have e0 := hg 0 hne
  have e := decN_irrel (n := xs.length) (b0 := (xs.getD 0 0).toNat) (hg 1) (hg 2) (hg 3)
  rw [← e]
  unfold Utf8.decode decN
  simp only [e0, hsz, Nat.zero_add] at *
  simp only [Utf8.runeError, valid_is, Bool.and_eq_true, decide_eq_true_eq, beq_iff_eq, and_assoc]
theorem if_cg {b c : Prop} [Decidable b] [Decidable c] {α : Type} {x y u v : α} (h : b ↔ c) (h1 : x = u) (h2 : y = v) : (if b then x else y) = (if c then u else v) := by
  subst h1 h2
  by_cases hc : c
  · rw [if_pos hc, if_pos (h.2 hc)]
  · rw [if_neg hc, if_neg (fun hb => hc (h.1 hb))]
theorem signN_is (xs : List Int) (ho : Octs xs) : signN xs = sgN xs.length (xs.getD 0 0).toNat (xs.getD 1 0).toNat (xs.getD 2 0).toNat (xs.getD 3 0).toNat := by
  have hb : ∀ k, 0 ≤ xs.getD k 0 ∧ xs.getD k 0 ≤ 255 := fun k => by
    rw [List.getD_eq_getElem?_getD]
    exact octs_getD ho k
  have h0 := hb 0
  have h1 := hb 1
  have h2 := hb 2
  have h3 := hb 3
  unfold signN sgN tlB
  generalize xs.getD 0 0 = x0 at *
  generalize xs.getD 1 0 = x1 at *
  generalize xs.getD 2 0 = x2 at *
  generalize xs.getD 3 0 = x3 at *
  obtain ⟨b0, rfl⟩ : ∃ b : Nat, x0 = b := ⟨x0.toNat, by omega⟩
  obtain ⟨b1, rfl⟩ : ∃ b : Nat, x1 = b := ⟨x1.toNat, by omega⟩
  obtain ⟨b2, rfl⟩ : ∃ b : Nat, x2 = b := ⟨x2.toNat, by omega⟩
  obtain ⟨b3, rfl⟩ : ∃ b : Nat, x3 = b := ⟨x3.toNat, by omega⟩
  have c1 : (if (b0 : Int) = 224 then (160 : Int) else 128) = ((if b0 = 224 then 160 else 128 : Nat) : Int) := by split <;> (rename_i h; first | rw [if_pos (by omega)] | rw [if_neg (by omega)]) <;> rfl
  have c2 : (if (b0 : Int) = 237 then (159 : Int) else 191) = ((if b0 = 237 then 159 else 191 : Nat) : Int) := by split <;> (rename_i h; first | rw [if_pos (by omega)] | rw [if_neg (by omega)]) <;> rfl
  have c3 : (if (b0 : Int) = 240 then (144 : Int) else 128) = ((if b0 = 240 then 144 else 128 : Nat) : Int) := by split <;> (rename_i h; first | rw [if_pos (by omega)] | rw [if_neg (by omega)]) <;> rfl
  have c4 : (if (b0 : Int) = 244 then (143 : Int) else 191) = ((if b0 = 244 then 143 else 191 : Nat) : Int) := by split <;> (rename_i h; first | rw [if_pos (by omega)] | rw [if_neg (by omega)]) <;> rfl
  rw [c1, c2, c3, c4]
  simp only [Int.toNat_natCast]
  refine if_cg (by omega) rfl (if_cg (by omega) (if_cg ?_ rfl rfl) (if_cg (by omega) (if_cg ?_ rfl rfl) (if_cg (by omega) (if_cg ?_ rfl rfl) rfl)))
  · simp only [Bool.and_eq_true, decide_eq_true_eq]
    omega
  · simp only [Bool.and_eq_true, decide_eq_true_eq]
    generalize (if b0 = 224 then 160 else 128) = l1
    generalize (if b0 = 237 then 159 else 191) = l2
    omega
  · simp only [Bool.and_eq_true, decide_eq_true_eq]
    generalize (if b0 = 240 then 144 else 128) = l3
    generalize (if b0 = 244 then 143 else 191) = l4
    omega

/-- What the decoder tells of a text's front, by the document's reader of signs. -/
theorem sign_zero (xs : List Int) (ho : Octs xs) (hne : 0 < xs.length) (h : signN xs = 0) : Lib.decodeL ((strOfNums xs).data.toList) = (65533, 1) := by
  have hb : ∀ k, (xs.getD k 0).toNat ≤ 255 := fun k => by
    have := octs_getD ho k
    rw [List.getD_eq_getElem?_getD]
    omega
  rw [decode_is xs ho hne]
  exact (dec_sg _ _ _ _ _ (hb 0) (hb 1) (hb 2) (hb 3)).1 (by rw [← signN_is xs ho]; exact h)
theorem sign_some (xs : List Int) (ho : Octs xs) (hne : 0 < xs.length) (h : signN xs ≠ 0) : (Lib.decodeL ((strOfNums xs).data.toList)).2 = signN xs ∧ ¬ ((Lib.decodeL ((strOfNums xs).data.toList)).1 = 65533 ∧ (Lib.decodeL ((strOfNums xs).data.toList)).2 = 1) := by
  have hb : ∀ k, (xs.getD k 0).toNat ≤ 255 := fun k => by
    have := octs_getD ho k
    rw [List.getD_eq_getElem?_getD]
    omega
  rw [decode_is xs ho hne, signN_is xs ho]
  exact (dec_sg _ _ _ _ _ (hb 0) (hb 1) (hb 2) (hb 3)).2 (by rw [← signN_is xs ho]; exact h)
/-- A sign's bytes behind its first are above 127, and it lies within the text. -/
theorem sign_high (xs : List Int) (h : signN xs ≠ 0) (hne : 0 < xs.length) : signN xs ≤ xs.length ∧ ∀ k, 1 ≤ k → k < signN xs → 128 ≤ xs.getD k 0 := by
  have ht : ∀ k lo hi, 128 ≤ lo → tlB xs k lo hi = true → k < xs.length ∧ 128 ≤ xs.getD k 0 := by
    intro k lo hi hlo hb
    unfold tlB at hb
    simp only [Bool.and_eq_true, decide_eq_true_eq] at hb
    omega
  have hi1 : ∀ c : Int, (128 : Int) ≤ (if c = 224 then 160 else 128) := fun c => by split <;> omega
  have hi2 : ∀ c : Int, (128 : Int) ≤ (if c = 240 then 144 else 128) := fun c => by split <;> omega
  unfold signN at h ⊢
  by_cases c0 : xs.getD 0 0 < 128
  · rw [if_pos c0]
    exact ⟨by omega, fun k h1 h2 => by omega⟩
  rw [if_neg c0] at h ⊢
  by_cases c1 : 194 ≤ xs.getD 0 0 ∧ xs.getD 0 0 ≤ 223
  · rw [if_pos c1] at h ⊢
    by_cases d1 : tlB xs 1 128 191 = true
    · rw [if_pos d1]
      have a1 := ht 1 _ _ (by omega) d1
      refine ⟨by omega, fun k h1 h2 => ?_⟩
      obtain rfl : k = 1 := by omega
      exact a1.2
    · rw [if_neg d1] at h
      exact absurd rfl h
  rw [if_neg c1] at h ⊢
  by_cases c2 : 224 ≤ xs.getD 0 0 ∧ xs.getD 0 0 ≤ 239
  · rw [if_pos c2] at h ⊢
    by_cases d1 : tlB xs 1 (if xs.getD 0 0 = 224 then 160 else 128) (if xs.getD 0 0 = 237 then 159 else 191) = true ∧ tlB xs 2 128 191 = true
    · rw [if_pos d1]
      have a1 := ht 1 _ _ (hi1 _) d1.1
      have a2 := ht 2 _ _ (by omega) d1.2
      refine ⟨by omega, fun k h1 h2 => ?_⟩
      rcases (by omega : k = 1 ∨ k = 2) with rfl | rfl
      · exact a1.2
      · exact a2.2
    · rw [if_neg d1] at h
      exact absurd rfl h
  rw [if_neg c2] at h ⊢
  by_cases c3 : 240 ≤ xs.getD 0 0 ∧ xs.getD 0 0 ≤ 244
  · rw [if_pos c3] at h ⊢
    by_cases d1 : tlB xs 1 (if xs.getD 0 0 = 240 then 144 else 128) (if xs.getD 0 0 = 244 then 143 else 191) = true ∧ tlB xs 2 128 191 = true ∧ tlB xs 3 128 191 = true
    · rw [if_pos d1]
      have a1 := ht 1 _ _ (hi2 _) d1.1
      have a2 := ht 2 _ _ (by omega) d1.2.1
      have a3 := ht 3 _ _ (by omega) d1.2.2
      refine ⟨by omega, fun k h1 h2 => ?_⟩
      rcases (by omega : k = 1 ∨ k = 2 ∨ k = 3) with rfl | rfl | rfl
      · exact a1.2
      · exact a2.2
      · exact a3.2
    · rw [if_neg d1] at h
      exact absurd rfl h
  rw [if_neg c3] at h
  exact absurd rfl h

/-- The document's own reading of a line from a place on: sign by sign. -/
def lineW : Nat → List Int → Bool
  | 0, _ => true
  | f + 1, xs => if xs = [] then true else if signN xs = 0 ∨ okByte (xs.getD 0 0) = false then false else lineW f (xs.drop (signN xs))
theorem str_drop (xs : List Int) (n : Nat) : (strOfNums xs).data.toList.drop n = (strOfNums (xs.drop n)).data.toList := by
  rw [strOfNums_data, strOfNums_data, List.map_drop]
theorem lineW_is : ∀ (f : Nat) (xs : List Int), Octs xs → xs.length ≤ f → lineW f xs = (Lib.validGoD f ((strOfNums xs).data.toList) && xs.all okByte)
  | 0, xs, ho, hl => by
    have e : xs = [] := List.eq_nil_of_length_eq_zero (by omega)
    subst e
    rfl
  | f + 1, xs, ho, hl => by
    by_cases hx : xs = []
    · subst hx
      rfl
    · have hp : 0 < xs.length := List.length_pos_iff.2 hx
      have hne : (strOfNums xs).data.toList ≠ [] := by
        rw [strOfNums_data]
        simpa using hx
      unfold lineW Lib.validGoD
      rw [if_neg hx, if_neg hne]
      by_cases hs : signN xs = 0
      · rw [if_pos (Or.inl hs), sign_zero xs ho hp hs, if_pos ⟨rfl, rfl⟩]
        rfl
      · obtain ⟨h1, h2⟩ := sign_some xs ho hp hs
        obtain ⟨h3, h4⟩ := sign_high xs hs hp
        rw [if_neg h2]
        have hall : xs.all okByte = (okByte (xs.getD 0 0) && (xs.drop (signN xs)).all okByte) := by
          have hd : xs = xs.take (signN xs) ++ xs.drop (signN xs) := (List.take_append_drop _ _).symm
          conv => lhs; rw [hd, List.all_append]
          congr 1
          have ht : ∀ k, k < signN xs → 1 ≤ k → okByte (xs.getD k 0) = true := fun k a b => by
            have h5 := h4 k b a
            generalize xs.getD k 0 = u at h5 ⊢
            unfold okByte
            simp
            omega
          rw [Bool.eq_iff_iff, List.all_eq_true]
          constructor
          · intro h
            refine h _ ?_
            rw [List.mem_take_iff_getElem]
            refine ⟨0, by omega, ?_⟩
            simp [List.getD_eq_getElem?_getD, List.getElem?_eq_getElem hp]
          · intro h u hu
            rw [List.mem_take_iff_getElem] at hu
            obtain ⟨k, hk, rfl⟩ := hu
            have e : xs[k]'(by omega) = xs.getD k 0 := by simp [List.getD_eq_getElem?_getD, List.getElem?_eq_getElem (show k < xs.length by omega)]
            rw [e]
            by_cases k0 : k = 0
            · rw [k0]; exact h
            · exact ht k (by omega) (by omega)
        by_cases hok : okByte (xs.getD 0 0) = false
        · rw [if_pos (Or.inr hok), hall, hok, Bool.false_and, Bool.and_false]
        · rw [if_neg (by rintro (h | h); · exact hs h
                         · exact hok h), h1, str_drop, lineW_is f (xs.drop (signN xs)) (octs_drop ho _) (by rw [List.length_drop]; omega), hall]
          rw [Bool.not_eq_false] at hok
          rw [hok, Bool.true_and]
theorem line_is (xs : List Int) (ho : Octs xs) (most : Int) : lineB xs most = (decide ((xs.length : Int) ≤ most) && lineW xs.length xs) := by
  unfold lineB utfB Lib.validD
  rw [lineW_is xs.length xs ho (Nat.le_refl _), Bool.and_assoc]
  congr 2
  rw [strOfNums_data, List.length_map]
end Go.Proofs.YtbdkalicgpdbkaaDoor
