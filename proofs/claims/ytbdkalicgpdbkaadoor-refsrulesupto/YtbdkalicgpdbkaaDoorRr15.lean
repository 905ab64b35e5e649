/-
  WALK: the function that strings.FieldsFuncSeq answers over blanks, as a range over it sees it.
-/
import Derived.Test.YtbdkalicgpdbkaaDoorRr14
import Derived.Test.YtbdkalicgpdbkaaDoorRr7
import Derived.Test.YtbdkalicgpdbkaaDoorShDec
import Derived.Test.YtbdkalicgpdbkaaDoorRgG
import Derived.Test.YtbdkalicgpdbkaaDoorFnR
import Derived.Test.YtbdkalicgpdbkaaDoorShStr
import Derived.Test.YtbdkalicgpdbkaaDoorRn2
namespace Go.Proofs.YtbdkalicgpdbkaaDoor
open Go.RowKit Go.Shelf
attribute [local go_sem] Oper.semAt_some

/-- What is handed to a round. -/
def encsW (p : List Int) : Array Value := #[.string (strOfNums p)]
/-- What a round must keep: the two boxes, and the tables of UTF-8. -/
structure KpW (s f : Nat) (W W' : World) : Prop where
  tabs : Tabs W → Tabs W'
  text : W'.heap[s]? = W.heap[s]?
  test : W'.heap[f]? = W.heap[f]?
theorem KpW.trans {s f : Nat} {A B C : World} (h : KpW s f A B) (k : KpW s f B C) : KpW s f A C :=
  ⟨fun t => k.tabs (h.tabs t), k.text.trans h.text, k.test.trans h.test⟩
/-- A word that is handed to a round; nothing else has come between. -/
def GvW (p : List Int) (A B : World) : Prop := Kept [] A B ∧ p ≠ [] ∧ Octs p ∧ p.length ≤ 1100000
/-- refs.isBlank, at any rune. -/
theorem isBlank_any (r : Int) (w : World) : Calls Tryd.prog 31 #[.int .i32 r] w fun e w' => e = .returned (.bool (blankB r)) ∧ w = w' := by
  by_cases h : r = 32
  · subst h
    go_enter Tryd.func31, Tryd.ntmps31
    go_wp2
    go_ret
    exact ⟨rfl, rfl⟩
  · have t1 : decide (r = 32) = false := decide_eq_false h
    by_cases h2 : r = 10
    · subst h2
      go_enter Tryd.func31, Tryd.ntmps31
      go_wp2
      go_ret
      exact ⟨rfl, rfl⟩
    · have t2 : decide (r = 10) = false := decide_eq_false h2
      have h3 : blankB r = false := by unfold blankB; rw [t1, t2]; rfl
      rw [h3]
      go_enter Tryd.func31, Tryd.ntmps31
      go_wp2
      go_ret
      exact ⟨by simp [h, h2], rfl⟩
/-- unicode/utf8.DecodeRuneInString. -/
theorem Decode_any (s : ByteArray) (w : World) (hT : Tabs w) : Calls Tryd.prog 48 #[.string s] w fun e w' => e = .returned (.tuple #[.int .i32 (Lib.decodeGo s).1, .int .i64 (Lib.decodeGo s).2]) ∧ Kept [] w w' :=
  (Any.utf8_DecodeRuneInString Tryd.laysDec s w hT).mono fun _ _ h => ⟨h.1, kept_of_below h.2⟩
theorem cell_heap {w W : World} {b : Nat} {v : Value} (h : w.cell? ⟨b, 0, none⟩ = some v) (k : W.heap[b]? = w.heap[b]?) : W.cell? ⟨b, 0, none⟩ = some v :=
  (World.cell?_of_block (w := w) (a := ⟨b, 0, none⟩) k).trans h
set_option maxRecDepth 100000 in
set_option maxHeartbeats 4000000 in
theorem words_G (xs : List Int) (ho : Octs xs) (hl : xs.length ≤ 1100000) {w : World} (bs bf : Nat) (hbs : w.cell? ⟨bs, 0, none⟩ = some (.string (strOfNums xs))) (hbf : w.cell? ⟨bf, 0, none⟩ = some (.func (.func 31) #[] #[])) (hT : Tabs w) (q : Nat) :
    SeqG Fence.wide q Tryd.prog 47 #[.pointer (some ⟨bs, 0, none⟩), .pointer (some ⟨bf, 0, none⟩)] encsW (KpW bs bf) GvW (fun l => l = wordsL [] xs) (fun pre => ∃ k, pre = (wordsL [] xs).take k) 1100000 w := by
  intro l J Jx W hW hJ hJx hY h0
  have kW : Kept [] w W := kept_of_below hW
  have HB : Hid (Tabs W ∧ W.cell? ⟨bs, 0, none⟩ = some (.string (strOfNums xs)) ∧ W.cell? ⟨bf, 0, none⟩ = some (.func (.func 31) #[] #[])) := ⟨hT.kept kW, kW.cell hbs (by simp), kW.cell hbf (by simp)⟩
  have HJ : Hid (∀ pre A B, J pre A → Kept [] A B → J pre B) := fun pre A B ha hk => hJ pre A B none ha hk.grows (fun r e => by cases e)
  have HY : Hid (∀ pre x A W1, J pre A → GvW x A W1 → pre.length < 1100000 → YieldAt Fence.wide (q - 1) Tryd.prog l (encsW x) W1 fun e W' =>
      (e = .returned (.bool true) ∧ J (pre ++ [x]) W' ∧ KpW bs bf W1 W') ∨ (e = .returned (.bool false) ∧ Jx (pre ++ [x]) W')) := hY
  have HJ0 : Hid (J [] W) := h0
  clear hbs hbf hT hW hJ hJx hY h0 kW
  refine callsIn_of_wp Tryd.func47 rfl trivial ?_ rfl
  simp only [Tryd.ntmps47, List.size_toArray, List.length_cons, List.length_nil, Nat.reduceAdd, Nat.reduceSub, Array.replicate_succ, Array.replicate_zero, List.push_toArray, List.append_toArray, List.nil_append, List.cons_append]
  obtain ⟨S, hS⟩ : ∃ S, S = strOfNums xs := ⟨_, rfl⟩
  have HS : Hid (S = strOfNums xs ∧ S.size = xs.length) := ⟨hS, by rw [hS]; exact strOfNums_size xs⟩
  have hs0 := HS.out.2
  rw [← hS] at HB
  clear hS
  gi_wp2_with fail
  gi_loopw [4, 5] (fun s4 s5 wr => ∃ (k : Nat) (st : Int), k ≤ xs.length ∧ -1 ≤ st ∧ st ≤ xs.length ∧ s4 = .int .i64 st ∧ s5 = .int .i64 k ∧ Hid (Tabs wr ∧ wr.cell? ⟨bs, 0, none⟩ = some (.string S) ∧ wr.cell? ⟨bf, 0, none⟩ = some (.func (.func 31) #[] #[])) ∧ Hid (∃ pre, WordsAt xs k st pre ∧ J pre wr)) (fun _ s5 _ => xs.length - (intOf s5).toNat)
  case atStart => exact ⟨0, -1, Nat.zero_le _, by omega, by omega, rfl, rfl, HB, ⟨[], WordsAt.start xs, HJ0.out⟩⟩
  case round =>
    obtain ⟨k, st, hk, hst, hst1, rfl, rfl, HC, HH⟩ := hrel
    have HCK : Hid (∀ W1, Kept [] wr W1 → Tabs W1 ∧ W1.cell? ⟨bs, 0, none⟩ = some (.string S) ∧ W1.cell? ⟨bf, 0, none⟩ = some (.func (.func 31) #[] #[])) := fun W1 k1 => ⟨HC.out.1.kept k1, k1.cell HC.out.2.1 (by simp), k1.cell HC.out.2.2 (by simp)⟩
    obtain ⟨c0, c1, c2⟩ := HC.out
    by_cases hlt : k < xs.length
    · have t1 : decide ((k : Int) < (xs.length : Int)) = true := decide_eq_true (by omega)
      have t2 : decide (k < xs.length) = true := decide_eq_true hlt
      obtain ⟨r, m, hd, hr0, hr1, hm1, hm2, hb, hb1, hb2⟩ := rune_at xs ho k hlt
      have hsub : S.extract k xs.length = strOfNums (xs.drop k) := by
        rw [HS.out.1, str_sub, List.take_length]
      have HDC : Hid (∀ W1, Kept [] wr W1 → Calls Tryd.prog 48 #[.string (S.extract k xs.length)] W1 fun e w' => e = .returned (.tuple #[.int .i32 r, .int .i64 m]) ∧ Kept [] W1 w') := fun W1 k1 => by
        have h := Decode_any (S.extract k xs.length) W1 (HCK.out W1 k1).1
        rw [hsub, hd] at h
        rw [hsub]
        have e : ((r.toNat : Nat) : Int) = r := Int.toNat_of_nonneg hr0
        rw [e] at h
        exact h
      have HIB : Hid (∀ W1, Calls Tryd.prog 31 #[.int .i32 r] W1 fun e w' => e = .returned (.bool (blankB r)) ∧ W1 = w') := isBlank_any r
      clear hsub hd hr0 hr1
      cases hbb : blankB r with
      | true =>
        rw [hbb] at HIB
        have hmm := hb1 hbb
        subst hmm
        by_cases hst0 : st < 0
        · obtain rfl : st = -1 := by omega
          have HN : Hid (∃ pre, WordsAt xs (k + 1) (-1) pre ∧ J pre wr) := by
            obtain ⟨pre, h1, h2⟩ := HH.out
            exact ⟨pre, h1.skip hlt (by rw [← hb]; exact hbb), h2⟩
          clear hb hb1 hb2 hbb
          gi_wp2_with fail
          refine ⟨trivial, fun h => (by cases h), ?_⟩
          refine (callsIn_wide.2 (HDC.out _ (Kept.refl _ _))).mono ?_
          rintro e w2 ⟨rfl, k2⟩
          obtain ⟨b0, b1, b2⟩ := HCK.out w2 k2
          have HK2 : Hid (Kept [] wr w2) := k2
          clear k2
          gi_wp2_with fail
          refine ⟨trivial, fun h => (by cases h), ?_⟩
          refine (callsIn_wide.2 (HIB.out _)).mono ?_
          rintro e w9 ⟨rfl, rfl⟩
          gi_wp2
          go_roundw
          case rel => exact ⟨k + 1, -1, by omega, by omega, by omega, rfl, by go_num, ⟨b0, b1, b2⟩, by obtain ⟨pre, h1, h2⟩ := HN.out; exact ⟨pre, h1, HJ.out _ _ _ h2 HK2.out⟩⟩
          case measure => simp [intOf]; omega
        · obtain ⟨s, rfl⟩ : ∃ s : Nat, st = s := ⟨st.toNat, by omega⟩
          obtain ⟨pre, hwa, hJp⟩ := HH.out
          obtain ⟨hn, hsk, hww⟩ := hwa.told hlt (by rw [← hb]; exact hbb)
          have hex : S.extract s k = strOfNums ((xs.take k).drop s) := by rw [HS.out.1, str_sub]
          obtain ⟨x, hx⟩ : ∃ x, x = (xs.take k).drop s := ⟨_, rfl⟩
          rw [← hx] at hex hn hww
          have hxl : x.length = k - s := by rw [hx]; simp; omega
          have hpl : pre.length < 1100000 := by
            have h1 := words_half xs []
            rw [if_pos rfl, hww] at h1
            simp at h1
            omega
          have HY2 : Hid (∀ W1, Kept [] wr W1 → YieldAt Fence.wide (q - 1) Tryd.prog l #[.string (S.extract s k)] W1 fun e W' =>
              (e = .returned (.bool true) ∧ J (pre ++ [x]) W' ∧ KpW bs bf W1 W') ∨ (e = .returned (.bool false) ∧ Jx (pre ++ [x]) W')) := fun W1 k1 => by
            rw [hex]
            exact HY.out pre x wr W1 hJp ⟨k1, fun e => (by rw [e] at hxl; simp at hxl; omega), fun u hu => ho u (List.mem_of_mem_take (List.mem_of_mem_drop (by rw [← hx]; exact hu))), by omega⟩ hpl
          have HN : Hid (WordsAt xs (k + 1) (-1) (pre ++ [x])) := hn
          have HSP : Hid (∃ j, pre ++ [x] = (wordsL [] xs).take j) := ⟨(pre ++ [x]).length, by rw [hww, List.take_left' rfl]⟩
          have u1 : (0 : Int) ≤ (s : Int) := by omega
          have u2 : (s : Int) ≤ (k : Int) := by omega
          have u3 : (k : Int) ≤ (xs.length : Int) := by omega
          clear hb hb1 hb2 hbb hwa hJp hn hww hex hx hxl hpl
          gi_wp2_with fail
          refine ⟨trivial, fun h => (by cases h), ?_⟩
          refine (callsIn_wide.2 (HDC.out _ (Kept.refl _ _))).mono ?_
          rintro e w2 ⟨rfl, k2⟩
          obtain ⟨b0, b1, b2⟩ := HCK.out w2 k2
          have HK2 : Hid (Kept [] wr w2) := k2
          have HYY := HY2.out w2 k2
          obtain ⟨yf, ytm, ya, yb, hyr, hyR⟩ := HYY
          clear k2
          gi_wp2_with fail
          refine ⟨trivial, fun h => (by cases h), ?_⟩
          refine (callsIn_wide.2 (HIB.out _)).mono ?_
          rintro e w9 ⟨rfl, rfl⟩
          gi_wp2_with fail
          refine ⟨fun h => (by cases h), hyR.mono ?_⟩
          rintro e w3 (⟨rfl, hj, hkp⟩ | ⟨rfl, hj⟩)
          · have HC3 : Hid (Tabs w3 ∧ w3.cell? ⟨bs, 0, none⟩ = some (.string S) ∧ w3.cell? ⟨bf, 0, none⟩ = some (.func (.func 31) #[] #[])) := ⟨hkp.tabs b0, cell_heap b1 hkp.text, cell_heap b2 hkp.test⟩
            have HJ3 : Hid (J (pre ++ [x]) w3) := hj
            clear hj hkp hyr hyR
            gi_wp2
            go_roundw
            case rel => exact ⟨k + 1, -1, by omega, by omega, by omega, rfl, by go_num, HC3, ⟨_, HN.out, HJ3.out⟩⟩
            case measure => simp [intOf]; omega
          · have HJ3 : Hid (Jx (pre ++ [x]) w3) := hj
            clear hj hyr hyR
            gi_wp2
            refine bodyPost_ret (results_none rfl _ _ _) rfl ?_
            exact ⟨⟨_, rfl⟩, .inr ⟨_, HSP.out, HJ3.out⟩⟩
      | false =>
        rw [hbb] at HIB
        have hno := hb2 hbb
        have e1 : IntKind.i64.wrap ((k : Int) + (m : Int)) = ((k + m : Nat) : Int) := by simp [IntKind.wrap, IntKind.bits, IntKind.signed]; omega
        by_cases hst0 : st < 0
        · obtain rfl : st = -1 := by omega
          have HN : Hid (∃ pre, WordsAt xs (k + m) k pre ∧ J pre wr) := by
            obtain ⟨pre, h1, h2⟩ := HH.out
            have h3 := h1.more hm2 hm1 hno
            rw [if_pos (by omega)] at h3
            exact ⟨pre, h3, h2⟩
          clear hb hb1 hb2 hbb hno
          gi_wp2_with fail
          refine ⟨trivial, fun h => (by cases h), ?_⟩
          refine (callsIn_wide.2 (HDC.out _ (Kept.refl _ _))).mono ?_
          rintro e w2 ⟨rfl, k2⟩
          obtain ⟨b0, b1, b2⟩ := HCK.out w2 k2
          have HK2 : Hid (Kept [] wr w2) := k2
          clear k2
          gi_wp2_with fail
          refine ⟨trivial, fun h => (by cases h), ?_⟩
          refine (callsIn_wide.2 (HIB.out _)).mono ?_
          rintro e w9 ⟨rfl, rfl⟩
          gi_wp2
          go_roundw
          case rel => exact ⟨k + m, k, by omega, by omega, by omega, rfl, by go_num, ⟨b0, b1, b2⟩, by obtain ⟨pre, h1, h2⟩ := HN.out; exact ⟨pre, h1, HJ.out _ _ _ h2 HK2.out⟩⟩
          case measure => simp [intOf]; omega
        · obtain ⟨s, rfl⟩ : ∃ s : Nat, st = s := ⟨st.toNat, by omega⟩
          have HN : Hid (∃ pre, WordsAt xs (k + m) s pre ∧ J pre wr) := by
            obtain ⟨pre, h1, h2⟩ := HH.out
            have h3 := h1.more hm2 hm1 hno
            rw [if_neg (by omega)] at h3
            exact ⟨pre, h3, h2⟩
          clear hb hb1 hb2 hbb hno
          gi_wp2_with fail
          refine ⟨trivial, fun h => (by cases h), ?_⟩
          refine (callsIn_wide.2 (HDC.out _ (Kept.refl _ _))).mono ?_
          rintro e w2 ⟨rfl, k2⟩
          obtain ⟨b0, b1, b2⟩ := HCK.out w2 k2
          have HK2 : Hid (Kept [] wr w2) := k2
          clear k2
          gi_wp2_with fail
          refine ⟨trivial, fun h => (by cases h), ?_⟩
          refine (callsIn_wide.2 (HIB.out _)).mono ?_
          rintro e w9 ⟨rfl, rfl⟩
          gi_wp2
          go_roundw
          case rel => exact ⟨k + m, s, by omega, by omega, by omega, rfl, by go_num, ⟨b0, b1, b2⟩, by obtain ⟨pre, h1, h2⟩ := HN.out; exact ⟨pre, h1, HJ.out _ _ _ h2 HK2.out⟩⟩
          case measure => simp [intOf]; omega
    · have t1 : decide ((k : Int) < (xs.length : Int)) = false := decide_eq_false (by omega)
      have t2 : decide (k < xs.length) = false := decide_eq_false hlt
      obtain ⟨pre, hwa, hJp⟩ := HH.out
      by_cases hst0 : st < 0
      · obtain rfl : st = -1 := by omega
        have HD : Hid (pre = wordsL [] xs ∧ J pre wr) := ⟨hwa.done (by omega), hJp⟩
        clear hwa hJp
        gi_wp2
        go_end0
        exact ⟨⟨_, rfl⟩, .inl ⟨pre, HD.out.1, HD.out.2⟩⟩
      · obtain ⟨s, rfl⟩ : ∃ s : Nat, st = s := ⟨st.toNat, by omega⟩
        obtain ⟨hww, hsl⟩ := hwa.last (by omega)
        obtain ⟨x, hx⟩ : ∃ x, x = xs.drop s := ⟨_, rfl⟩
        have hex : S.extract s xs.length = strOfNums x := by rw [HS.out.1, str_sub, List.take_length, hx]
        rw [← hx] at hww
        have hxl : x.length = xs.length - s := by rw [hx]; simp
        have hpl : pre.length < 1100000 := by
          have h1 := words_half xs []
          rw [if_pos rfl, ← hww] at h1
          simp at h1
          omega
        have HY2 : Hid (∀ W1, Kept [] wr W1 → YieldAt Fence.wide (q - 1) Tryd.prog l #[.string (S.extract s xs.length)] W1 fun e W' =>
            (e = .returned (.bool true) ∧ J (pre ++ [x]) W' ∧ KpW bs bf W1 W') ∨ (e = .returned (.bool false) ∧ Jx (pre ++ [x]) W')) := fun W1 k1 => by
          rw [hex]
          exact HY.out pre x wr W1 hJp ⟨k1, fun e => (by rw [e] at hxl; simp at hxl; omega), fun u hu => ho u (List.mem_of_mem_drop (by rw [← hx]; exact hu)), by omega⟩ hpl
        have HSP : Hid (pre ++ [x] = wordsL [] xs ∧ ∃ j, pre ++ [x] = (wordsL [] xs).take j) := ⟨hww, (wordsL [] xs).length, by rw [hww, List.take_length]⟩
        have u1 : (0 : Int) ≤ (s : Int) := by omega
        have u3 : (s : Int) ≤ (xs.length : Int) := by omega
        have HYY := HY2.out wr (Kept.refl _ _)
        obtain ⟨yf, ytm, ya, yb, hyr, hyR⟩ := HYY
        clear hwa hJp hww hex hx hxl hpl
        gi_wp2_with fail
        refine ⟨fun h => (by cases h), hyR.mono ?_⟩
        rintro e w3 (⟨rfl, hj, hkp⟩ | ⟨rfl, hj⟩)
        · have HJ3 : Hid (J (pre ++ [x]) w3) := hj
          clear hj hkp hyr hyR
          gi_wp2
          go_end0
          exact ⟨⟨_, rfl⟩, .inl ⟨_, HSP.out.1, HJ3.out⟩⟩
        · have HJ3 : Hid (Jx (pre ++ [x]) w3) := hj
          clear hj hyr hyR
          gi_wp2
          go_end0
          exact ⟨⟨_, rfl⟩, .inr ⟨_, HSP.out.2, HJ3.out⟩⟩
end Go.Proofs.YtbdkalicgpdbkaaDoor
