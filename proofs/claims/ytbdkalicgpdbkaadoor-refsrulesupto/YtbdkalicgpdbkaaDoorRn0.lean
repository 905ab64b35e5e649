/-
  PLAIN: good names of refs: rune by rune (as the program reads them) and part by part (as the document tells them) are the same.
-/
import Derived.Test.YtbdkalicgpdbkaaDoorChecked
import Derived.Test.YtbdkalicgpdbkaaDoorBase
namespace Go.Proofs.YtbdkalicgpdbkaaDoor

/-- Letters and digits. -/
def alnumB (b : Int) : Bool := (decide (97 ≤ b) && decide (b ≤ 122)) || (decide (65 ≤ b) && decide (b ≤ 90)) || (decide (48 ≤ b) && decide (b ≤ 57))
/-- Which sign may follow which. -/
def sgnB (last b : Int) : Bool := if last = 47 then decide (b = 95) else if last = 46 then decide (b = 95) || decide (b = 45) else decide (b = 46) || decide (b = 95) || decide (b = 45) || decide (b = 47)
def mayB (last b : Int) : Bool := decide (128 ≤ b) || alnumB b || sgnB last b
def runB (last : Int) : List Int → Bool
  | [] => mayB last 47
  | b :: t => mayB last b && runB b t
def headN : List Int := [72, 69, 65, 68]
/-- A part's bytes. -/
def charB (b : Int) : Bool := alnumB b || decide (b = 46) || decide (b = 95) || decide (b = 45) || decide (128 ≤ b)
/-- Nowhere two dots behind one another, all bytes good. -/
def dotsB (last : Int) : List Int → Bool
  | [] => true
  | b :: t => (charB b && !(decide (b = 46) && decide (last = 46))) && dotsB b t
def partB (p : List Int) : Bool := decide (p ≠ []) && !decide (p.head? = some 46) && !decide (p.head? = some 45) && !decide (p.getLast? = some 46) && dotsB 0 p
/-- A text cut at each 47. -/
def cutL (acc : List Int) : List Int → List (List Int)
  | [] => [acc]
  | b :: t => if b = 47 then acc :: cutL [] t else cutL (acc ++ [b]) t

theorem dotsB_snoc : ∀ (p : List Int) (l b : Int), dotsB l (p ++ [b]) = (dotsB l p && (charB b && !(decide (b = 46) && decide ((p.getLast?.getD l) = 46))))
  | [], l, b => by simp only [List.nil_append, dotsB, List.getLast?_nil, Option.getD_none, Bool.and_true, Bool.true_and]; rfl
  | a :: p, l, b => by
    rw [List.cons_append, dotsB, dotsB, dotsB_snoc p a b]
    have e : (p.getLast?.getD a) = ((a :: p).getLast?.getD l) := by
      cases p with
      | nil => rfl
      | cons c q => simp [List.getLast?_cons]
    rw [e]
    simp only [Bool.and_assoc]
/-- A beginning of a part that may become a good one. -/
def preB (p : List Int) : Bool := !decide (p.head? = some 46) && !decide (p.head? = some 45) && dotsB 0 p
def lastL (p : List Int) : Int := p.getLast?.getD 47
theorem preB_no47 (p : List Int) (h : dotsB 0 p = true) : p.getLast? ≠ some 47 := by
  intro hl
  obtain ⟨q, rfl⟩ : ∃ q, p = q ++ [47] := by
    have := List.getLast?_eq_some_iff.1 hl
    exact this
  rw [dotsB_snoc] at h
  simp [charB, alnumB] at h
theorem partB_pre (p : List Int) : partB p = (preB p && mayB (lastL p) 47) := by
  cases hp : p.getLast? with
  | none =>
    have : p = [] := List.getLast?_eq_none_iff.1 hp
    subst this
    rfl
  | some x =>
    have hne : p ≠ [] := by rintro rfl; simp at hp
    unfold partB preB lastL
    rw [hp]
    simp only [Option.getD_some]
    by_cases hd : dotsB 0 p = true
    · have h47 := preB_no47 p hd
      rw [hp] at h47
      have hx : x ≠ 47 := fun e => h47 (by rw [e])
      rw [hd]
      have e : mayB x 47 = !decide (x = 46) := by
        unfold mayB sgnB alnumB
        rw [if_neg hx]
        by_cases h46 : x = 46
        · subst h46; rfl
        · rw [if_neg h46]; simp [h46]
      rw [e]
      simp [hne]
    · have hf : dotsB 0 p = false := by simpa using hd
      rw [hf]
      simp
theorem preB_snoc (p : List Int) (b : Int) (hb : b ≠ 47) : preB (p ++ [b]) = (preB p && mayB (lastL p) b) := by
  unfold preB lastL
  rw [dotsB_snoc]
  cases p with
  | nil =>
    simp only [List.nil_append, List.head?_cons, List.getLast?_nil, Option.getD_none, List.head?_nil, dotsB]
    unfold mayB sgnB charB
    rw [if_pos rfl]
    rw [Bool.eq_iff_iff]
    simp only [Bool.and_eq_true, Bool.or_eq_true, Bool.not_eq_true', decide_eq_true_eq, decide_eq_false_iff_not, Option.some.injEq]
    unfold alnumB
    simp only [Bool.and_eq_true, Bool.or_eq_true, decide_eq_true_eq]
    simp
    omega
  | cons a q =>
    have hl : ∃ x, (a :: q).getLast? = some x := by
      cases h : (a :: q).getLast? with
      | none => simp at h
      | some x => exact ⟨x, rfl⟩
    obtain ⟨x, hx⟩ := hl
    have hh : ((a :: q) ++ [b]).head? = (a :: q).head? := rfl
    rw [hh, hx]
    simp only [Option.getD_some]
    by_cases hd : dotsB 0 (a :: q) = true
    · have h47 := preB_no47 (a :: q) hd
      rw [hx] at h47
      have hx7 : x ≠ 47 := fun e => h47 (by rw [e])
      have e : (charB b && !(decide (b = 46) && decide (x = 46))) = mayB x b := by
        unfold mayB sgnB charB alnumB
        rw [if_neg hx7]
        by_cases h46 : x = 46
        · subst h46
          rw [if_pos rfl, Bool.eq_iff_iff]
          simp only [Bool.and_eq_true, Bool.or_eq_true, Bool.not_eq_true', decide_eq_true_eq, Bool.and_eq_false_iff, decide_eq_false_iff_not]
          simp only [not_true_eq_false, or_false]
          omega
        · rw [if_neg h46, Bool.eq_iff_iff]
          simp only [Bool.and_eq_true, Bool.or_eq_true, Bool.not_eq_true', decide_eq_true_eq, Bool.and_eq_false_iff, decide_eq_false_iff_not]
          omega
      rw [e, hd]
      simp
    · have hf : dotsB 0 (a :: q) = false := by simpa using hd
      rw [hf]
      simp
theorem lastL_snoc (p : List Int) (b : Int) : lastL (p ++ [b]) = b := by
  unfold lastL
  simp
theorem cut_all : ∀ (xs acc : List Int), ((cutL acc xs).all partB) = (preB acc && runB (lastL acc) xs)
  | [], acc => by
    unfold cutL runB
    simp [partB_pre]
  | b :: t, acc => by
    unfold cutL runB
    by_cases hb : b = 47
    · subst hb
      rw [if_pos rfl, List.all_cons, partB_pre, cut_all t []]
      have : preB [] = true := rfl
      rw [this, Bool.true_and]
      have : lastL [] = 47 := rfl
      rw [this, Bool.and_assoc]
    · rw [if_neg hb, cut_all t, preB_snoc acc b hb, lastL_snoc, Bool.and_assoc]
theorem run_parts (xs : List Int) : runB 47 xs = (cutL [] xs).all partB := by
  rw [cut_all]
  rfl
end Go.Proofs.YtbdkalicgpdbkaaDoor
