/-
  WALK: satchelref14.ParseRules.
-/
import Derived.Test.YtbdkalicgpdbkaaDoorRr1
import Derived.Test.YtbdkalicgpdbkaaDoorRr7
import Derived.Test.YtbdkalicgpdbkaaDoorRm15
namespace Go.Proofs.YtbdkalicgpdbkaaDoor
open Go.RowKit

/-- A list of rules of one's own. -/
def RuleOwn (w : World) (B : Nat) (v : Value) (R : List RuleL) : Prop := w.ownsRow B 37 4 v R.length (R.map RuleL.row).flatten
theorem row_one (r : RuleL) : ∀ v, v ∈ r.row → v.oneCell' = true := fun v hv => rows_one [r] r.row (by simp) v hv
/-- What ParseRules answers: the rules, in a list of one's own, or 141. -/
def RulesOut (o : Option (List RuleL)) (B : Nat) (e : Ending) (w : World) : Prop :=
  match o with
  | some R => ∃ v, e = .returned (.tuple #[v, .int .i64 0]) ∧ RuleOwn w B v R
  | none => e = .returned (.tuple #[.slice none 0 0, .int .i64 141])
theorem RuleOwn.push {W : World} {B : Nat} {v : Value} {R : List RuleL} {r : RuleL} (h : W.ownsRow B 37 4 v (R.length + [r.row].length) ((R.map RuleL.row).flatten ++ [r.row].flatten)) : RuleOwn W B v (R ++ [r]) := by
  unfold RuleOwn
  rw [List.map_append, List.flatten_append, List.length_append]
  exact h
theorem RuleOwn.form {W : World} {B : Nat} {v : Value} {R : List RuleL} (h : RuleOwn W B v R) : ∃ a c, v = .slice a R.length c := by
  rcases h.2 with ⟨hv, h0⟩ | ⟨g, cap', cur, hv, _⟩
  · exact ⟨none, 0, by rw [hv, h0]⟩
  · exact ⟨_, _, hv⟩
theorem RuleOwn.base {W : World} {B C : Nat} {v : Value} {R : List RuleL} (h : RuleOwn W B v R) (hb : C ≤ B) : RuleOwn W C v R := by
  refine ⟨h.1, ?_⟩
  rcases h.2 with h1 | ⟨g, cap', cur, hv, hg, hh⟩
  · exact .inl h1
  · exact .inr ⟨g, cap', cur, hv, Nat.le_trans hb hg, hh⟩
set_option maxRecDepth 100000 in
set_option maxHeartbeats 4000000 in
theorem RParseRules_any (xs : List Int) (ho : Octs xs) (hs : xs.length ≤ 1100000) (w : World) : Calls Tryd.prog 15 #[.string (strOfNums xs)] w fun e w' => RulesOut (parseL xs) w.heap.size e w' ∧ Kept [] w w' := by
  obtain ⟨L, hL⟩ : ∃ L, L = wordsL [] xs := ⟨_, rfl⟩
  have HPL : Hid (parseL xs = match L.mapM readL with | some l => if l.length ≤ 64 then some l else none | none => none) := by rw [hL]; exact rfl
  have hn : L.length ≤ 600000 := by
    have h := words_half xs []
    rw [if_pos rfl, ← hL] at h
    omega
  have HMem : Hid (∀ (k : Nat) (p : List Int), L[k]? = some p → p ≠ [] ∧ Octs p ∧ p.length ≤ 1100000) := fun k p hp => by
    obtain ⟨h1, h2, h3⟩ := words_mem xs [] p (by rw [← hL]; exact List.mem_of_getElem? hp)
    refine ⟨h1, fun u hu => (h2 u hu).elim (fun x => by cases x) (ho u), ?_⟩
    simp at h3
    omega
  have HWD : Hid (∀ W, Calls Tryd.prog 33 #[.string (strOfNums xs)] W fun e w' => ∃ a c, e = .returned (.slice a L.length c) ∧ (∀ (k : Nat) (p : List Int), L[k]? = some p → ∃ g, a = some ⟨g, 0, none⟩ ∧ w'.cell? ⟨g, k, none⟩ = some (.string (strOfNums p))) ∧ Kept [] W w') := fun W => by
    refine (Words_any xs ho hs W).mono ?_
    rintro e w2 ⟨v, rfl, h2, k2⟩
    rw [← hL] at h2
    by_cases he : L = []
    · rcases h2.2 with ⟨hv, h0⟩ | ⟨g, cap', cur, hv, hg, hh, hnc, hcm, hcs, htk⟩
      · exact ⟨none, 0, by rw [hv, he]; rfl, fun k p hp => by rw [he] at hp; simp at hp, k2⟩
      · exact ⟨_, _, by rw [hv], fun k p hp => by rw [he] at hp; simp at hp, k2⟩
    · obtain ⟨g, c, rfl, _, hh⟩ := h2.form he
      exact ⟨_, c, rfl, fun k p hp => ⟨g, rfl, hh k p hp⟩, k2⟩
  clear ho hs hL
  generalize strOfNums xs = S at *
  go_enter Tryd.func15, Tryd.ntmps15
  go_wp2_with (go_at_call 33
               refine (HWD.out _).mono ?_
               rintro e w1 ⟨wa, wc, rfl, hc1, k1⟩
               have HC1 : Hid (∀ (k : Nat) (p : List Int), L[k]? = some p → ∃ g, wa = some ⟨g, 0, none⟩ ∧ w1.cell? ⟨g, k, none⟩ = some (.string (strOfNums p))) := hc1
               have HK1 : Hid (Kept [] w w1) := k1
               clear hc1 k1)
  go_loopw [5, 6] (fun s5 s6 wr => ∃ (k : Nat) (R : List RuleL) (u : Value), u = s5 ∧ s6 = .int .i64 k ∧ k ≤ L.length ∧ Hid (ReadTo L k R) ∧ Hid (RuleOwn wr w1.heap.size u R) ∧ Hid (Kept [] w1 wr)) (fun _ s6 _ => L.length - (intOf s6).toNat)
  case atStart => exact ⟨0, [], _, rfl, rfl, Nat.zero_le _, ReadTo.start L, World.ownsRow_nil _ _ _ _, Kept.refl _ _⟩
  case round =>
    obtain ⟨k, R, u, rfl, rfl, hk, HR, HO, HK⟩ := hrel
    by_cases hlt : k < L.length
    · have t0 : decide ((k : Int) < (L.length : Int)) = true := by simp; omega
      obtain ⟨p, hp⟩ : ∃ p, L[k]? = some p := ⟨_, List.getElem?_eq_getElem hlt⟩
      obtain ⟨hpn, hpo, hpl⟩ := HMem.out k p hp
      obtain ⟨g, rfl, hcw⟩ := HC1.out k p hp
      have hcell : wr.cell? ⟨g, k, none⟩ = some (.string (strOfNums p)) := HK.out.cell hcw (by simp)
      have k0 : (0 : Int) ≤ (k : Int) := by omega
      have k1 : (k : Int) < (L.length : Int) := by omega
      have HRU := rule14_any p hpn hpo hpl
      have HB1 : Hid (w1.heap.size ≤ wr.heap.size) := HK.out.size
      have HUB : Hid (∀ x, u.ownBlock = some x → w1.heap.size ≤ x) := fun x hx => (World.ownsRow.lt HO.out x hx).1
      cases hr : readL p with
      | none =>
        have HRN : Hid (∀ W, Calls Tryd.prog 34 #[.string (strOfNums p)] W fun e w' => ∃ X : List Value, X.length = 4 ∧ (∀ v, v ∈ X → v.oneCell' = true) ∧ e = .returned (.tuple #[.agg X.toArray, .bool false]) ∧ Kept [] W w') := fun W => (HRU W).mono fun e w' h => by
          obtain ⟨r, he, _, hk⟩ := h
          rw [hr] at he
          exact ⟨r.row, rfl, row_one r, he, hk⟩
        have HNO : Hid (parseL xs = none) := by
          have h := HPL.out
          rw [HR.out.bad hp hr] at h
          exact h
        have HKW : Hid (Kept [] w wr) := HK1.out.then HK.out
        clear hr HRU hpn hpo hpl hp hcw
        generalize strOfNums p = SP at *
        go_wp2_with (first
          | (go_at_call 34
             refine (HRN.out _).mono ?_
             rintro e w2 ⟨X, hX4, hX1, rfl, k2⟩
             have HK2 : Hid (Kept [] wr w2) := k2
             have HX1 : Hid (∀ v, v ∈ X → v.oneCell' = true) := hX1
             clear k2 hX1)
          | (refine wpList_store_row rfl 37 (.tmp 7) (.tmp 23) rfl w2.heap.size X.toArray rfl rfl 37 #[.string ⟨#[]⟩, .string ⟨#[]⟩, .bool false, .bool false] (heap_alloc_new w2 _) (by rw [show X.toArray.size = 4 by rw [List.size_toArray, hX4]]; kernel_rfl) (by simp [hX4]) (all_oneCell_toArray HX1.out) ?_
             rw [World.setRow_alloc_new]))
        exact bodyPost_ret (v := .tuple #[.slice none 0 0, .int .i64 141]) (by simp [results, Tryd.results15, go_sem, *]) rfl ⟨(by rw [HNO.out]; exact rfl), (HKW.out.then HK2.out).alloc _⟩
      | some r =>
        have HRN : Hid (∀ W, Calls Tryd.prog 34 #[.string (strOfNums p)] W fun e w' => e = .returned (.tuple #[.agg r.row.toArray, .bool true]) ∧ Kept [] W w') := fun W => (HRU W).mono fun e w' h => by
          obtain ⟨r', he, hq, hk⟩ := h
          rw [hr] at he
          rw [hq r hr] at he
          exact ⟨he, hk⟩
        have HNX : Hid (ReadTo L (k + 1) (R ++ [r])) := HR.out.next hp hr
        have HAP : Hid (∀ (W : World) (v : Value), W.ownsRow w1.heap.size 37 4 v (R.length + [r.row].length) ((R.map RuleL.row).flatten ++ [r.row].flatten) → RuleOwn W w1.heap.size v (R ++ [r])) := fun W v h => RuleOwn.push h
        have hX4 : r.row.length = 4 := rfl
        have HX1 : Hid (∀ v, v ∈ r.row → v.oneCell' = true) := row_one r
        have hRn : R.length ≤ 600000 := by have := HR.out.1; omega
        have HO' : Hid (wr.ownsRow w1.heap.size 37 4 u R.length (R.map RuleL.row).flatten) := HO
        clear hr HRU hpn hpo hpl hp hcw
        generalize strOfNums p = SP at *
        generalize r.row = X at *
        go_wp2_with (first
          | (go_at_call 34
             refine (HRN.out _).mono ?_
             rintro e w2 ⟨rfl, k2⟩
             have HK2 : Hid (Kept [] wr w2) := k2
             have HOO : Hid (∀ o o2, ((w2.alloc o).alloc o2).ownsRow w1.heap.size 37 4 u R.length (R.map RuleL.row).flatten) := (fun o o2 => ownsK_on' HO'.out ((HK2.out.alloc _).alloc _))
             have HSZ : Hid (∀ o o2, w1.heap.size ≤ ((w2.alloc o).alloc o2).heap.size) := (fun o o2 => Nat.le_trans HB1.out ((HK2.out.alloc _).alloc _).size)
             clear k2)
          | (refine wpList_store_row rfl 37 (.tmp 7) (.tmp 23) rfl w2.heap.size X.toArray rfl rfl 37 #[.string ⟨#[]⟩, .string ⟨#[]⟩, .bool false, .bool false] (heap_alloc_new w2 _) (by rw [show X.toArray.size = 4 by rw [List.size_toArray, hX4]]; kernel_rfl) (by simp [hX4]) (all_oneCell_toArray HX1.out) ?_
             rw [World.setRow_alloc_new])
          | (refine wpList_load_row rfl 37 (.tmp 7) rfl w2.heap.size rfl 37 X.toArray (0, 0) _ (heap_alloc_new w2 _) Tryd.underlying37 rfl (by rw [show X.toArray.size = 4 by rw [List.size_toArray, hX4]]; kernel_rfl) ?_)
          | (refine wpList_build_k (by rfl) Tryd.underlying22 Tryd.info_rule (by decide) (by decide) _ (by rfl) X (by rfl) hX4 ?_)
          | (at_builtin; refine wpList_append_rows rfl (.tmp 27) (.tmp 29) 22 37 _ 4 40 Tryd.underlying22 Tryd.info_rule rfl (by decide) rfl (B := w1.heap.size) (v := u) (n := R.length) (xs := (R.map RuleL.row).flatten) rfl (HOO.out _ _) (rows := [X]) rfl (row_at_new _ _ _ _) (by rintro y hy; rw [List.mem_singleton.1 hy]; exact hX4) (by rintro y hy; rw [List.mem_singleton.1 hy]; exact HX1.out) (by simp; omega) (by decide) (HSZ.out _ _) ?_
             intro v3 w3 h3 k3
             have HO3 : Hid (RuleOwn w3 w1.heap.size v3 (R ++ [r])) := HAP.out _ _ h3
             have hq : ∀ y, y ∈ u.ownBlock.toList → w1.heap.size ≤ y := fun y hy => HUB.out y (by simpa using hy)
             have HK3 : Hid (Kept [] w1 w3) := (((HK.out.then HK2.out).alloc _).alloc _).trans k3 (fun y hy => Or.inr (hq y hy))
             clear h3 k3 hq))
        go_roundw
        case rel => exact ⟨k + 1, R ++ [r], _, rfl, by go_num, by omega, HNX, HO3, HK3⟩
        case measure => simp [intOf]; omega
    · have t0 : decide ((k : Int) < (L.length : Int)) = false := by simp; omega
      have hkn : k = L.length := by omega
      obtain ⟨ua, uc, rfl⟩ := HO.out.form
      have hRl : R.length = L.length := by rw [HR.out.1, hkn]
      have HKW : Hid (Kept [] w wr) := HK1.out.then HK.out
      have hall := HR.out.all (by omega)
      have hpl : parseL xs = if R.length ≤ 64 then some R else none := by rw [HPL.out, hall]
      have HB1 : Hid (w.heap.size ≤ w1.heap.size) := HK1.out.size
      by_cases h64 : R.length ≤ 64
      · have HPS : Hid (parseL xs = some R) := by rw [if_pos h64] at hpl; exact hpl
        have t1 : decide ((64 : Int) < (R.length : Int)) = false := by simp; omega
        clear hpl hall hkn
        go_wp2
        exact bodyPost_ret (v := .tuple #[.slice ua R.length uc, .int .i64 0]) (by simp [results, Tryd.results15, go_sem, *]) rfl ⟨(by rw [HPS.out]; exact ⟨_, rfl, HO.out.base HB1.out⟩), HKW.out⟩
      · have HPS : Hid (parseL xs = none) := by rw [if_neg h64] at hpl; exact hpl
        have t1 : decide ((64 : Int) < (R.length : Int)) = true := by simp; omega
        clear hpl hall hkn
        go_wp2
        exact bodyPost_ret (v := .tuple #[.slice none 0 0, .int .i64 141]) (by simp [results, Tryd.results15, go_sem, *]) rfl ⟨(by rw [HPS.out]; exact rfl), HKW.out⟩
end Go.Proofs.YtbdkalicgpdbkaaDoor
