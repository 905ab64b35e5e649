/-
  LISTS OF STRUCTS OPENED, whatever the struct: what a reading of one says of memory.
  WALKS: satchelref0.Cmp and Eq over any two slices of bytes.
  BYTES cut out of bytes.
  WALK: satchelref0.Copy, for every slice of bytes.
-/
import Derived.Test.YtnfbiemmdaenpaaDoorOpenB
import Derived.Test.YtnfbiemmdaenpaaDoorPlain
import Derived.Test.YtnfbiemmdaenpaaDoorPlain2
namespace Go.Proofs.YtnfbiemmdaenpaaDoor
open Go.ChangeShapes Go.WideShapes Go.ChangeAt Go.RowKit Go.Deep

/-- A string's bytes as numbers. -/
def numsOf (s : ByteArray) : List Int := s.data.toList.map fun b => (b.toNat : Int)
theorem nums_str (s : ByteArray) : strOfNums (numsOf s) = s := by
  have e : (numsOf s).map (fun n => UInt8.ofNat n.toNat) = s.data.toList := by
    unfold numsOf
    rw [List.map_map]
    conv => rhs; rw [← List.map_id s.data.toList]
    exact List.map_congr_left fun b _ => by simp
  show (⟨((numsOf s).map fun n => UInt8.ofNat n.toNat).toArray⟩ : ByteArray) = s
  rw [e]
theorem nums_octs (s : ByteArray) : Octs (numsOf s) := fun u hu => by
  obtain ⟨b, _, rfl⟩ := List.mem_map.1 hu
  have := b.toNat_lt
  omega
theorem drop_cut {α : Type} (cs : List α) (o n : Nat) : cs.drop o = (cs.drop o).take n ++ cs.drop (o + n) := by
  rw [← List.drop_drop, List.take_append_drop]

section
variable {H : Type} {enc : TypeId × Value → H} {w : World} {base : Nat} {spare : Nat → Bool} {held : Bool} {fuel : Nat} {cs : List Value} {x : DataW H × List MemPlace}
theorem weights_each (e : TypeId) (l : List (DataW H)) (B : Nat) (h : (DataW.weightsAll Tryd.prog e l).all (· ≤ B) = true) : ∀ d, d ∈ l → (DataW.weights Tryd.prog e d).all (· ≤ B) = true := by
  induction l with
  | nil => intro d hd; simp at hd
  | cons a l ih =>
    intro d hd
    simp only [DataW.weightsAll, List.all_append, Bool.and_eq_true] at h
    rcases List.mem_cons.1 hd with rfl | hd
    · exact h.1
    · exact ih h.2 d hd

theorem bulk_mem (l : List (DataW H)) (d : DataW H) (h : d ∈ l) : Rows.uptoBulk d ≤ Rows.uptoBulkAll l := by
  induction l with
  | nil => cases h
  | cons a l ih =>
    simp only [Rows.uptoBulkAll]
    rcases List.mem_cons.1 h with rfl | h
    · omega
    · have := ih h
      omega

set_option maxRecDepth 100000 in
/-- A list of structs of k cells, opened: each element is a thing of its own that lies in the list's row. -/
theorem open_rowlU {t e : TypeId} {k : Nat} {α : Type} [Inhabited α] (row : α → List Value) (G : α → Prop) (K : α → Nat) (B : Nat) (ht : Tryd.prog.underlying t = some (.slice e)) (hk : Tryd.prog.cellsOf e = k) (hk0 : 0 < k)
    (h : DataW.trod enc Tryd.prog w base spare held fuel t cs = some x)
    (hel : ∀ fuel cs x, DataW.trod enc Tryd.prog w base spare held fuel e cs = some x → ∃ a : α, cs = row a ∧ ((DataW.weights Tryd.prog e x.1).all (· ≤ B) = true → G a) ∧ K a ≤ Rows.uptoBulk x.1) :
    ∃ ao cap ls, cs = [.slice ao ls.length cap] ∧ ls.length ≤ cap ∧ (ao = none → cap = 0) ∧ (ls ≠ [] → ∃ b off, ao = some ⟨b, off, none⟩ ∧ ∀ (i : Nat) (a : α), ls[i]? = some a → w.rangeAt b (off + i * k) (row a)) ∧
      ((DataW.weights Tryd.prog t x.1).all (· ≤ B) = true → ls.length * Tryd.prog.bytesOf e ≤ B ∧ ∀ a, a ∈ ls → G a) ∧ ∀ a, a ∈ ls → K a ≤ Rows.uptoBulk x.1 := by
  rcases open_slice ht h with ⟨rfl, rfl⟩ | ⟨a, len, cap, m, n, D, Pl, rfl, _, hl, hm, hmm, rfl, hee⟩
  · exact ⟨none, 0, [], rfl, Nat.le_refl _, fun _ => rfl, fun e => absurd rfl e, fun _ => ⟨by simp, fun a ha => by cases ha⟩, fun a ha => by cases ha⟩
  · have hlm : len ≤ m := by rw [hmm]; split <;> omega
    have hop : ∀ i, i < len → ∃ o : α, w.cells? base (a.add (i * k)) k = some (row o) ∧ ((DataW.weights Tryd.prog e (D i)).all (· ≤ B) = true → G o) ∧ K o ≤ Rows.uptoBulk (D i) := by
      intro i hi
      obtain ⟨cs', hc, hte⟩ := hee i (by omega)
      rw [hk] at hc
      obtain ⟨o, rfl, hg⟩ := hel _ _ _ hte
      exact ⟨o, hc, hg⟩
    obtain ⟨O, hO⟩ := choose_lt hop
    have hlen : ((List.range len).map O).length = len := by simp
    refine ⟨some a, cap, (List.range len).map O, by rw [hlen], by rw [hlen]; exact hl, fun e => by simp at e, fun hne => ?_, fun hB => ?_, fun o ho => ?_⟩
    · have hpos : 0 < len := by
        rcases Nat.eq_zero_or_pos len with h0 | h0
        · subst h0; simp at hne
        · exact h0
      obtain ⟨b, off, spot⟩ := a
      have hl0 := (World.cells?_some (hO 0 hpos).1)
      have hspot : spot = none := by
        have h1 := hl0.2.2 0 hk0
        have hg0 : (row (O 0)).length = k := hl0.2.1
        obtain ⟨c0, hc0⟩ : ∃ c, (row (O 0))[0]? = some c := ⟨(row (O 0))[0], List.getElem?_eq_getElem (by omega)⟩
        rw [hc0] at h1
        simpa [Addr.add] using World.cell?_spot h1
      subst hspot
      refine ⟨b, off, rfl, fun i o ho => ?_⟩
      have hi : i < len := by have := (List.getElem?_eq_some_iff.1 ho).1; omega
      have eo : O i = o := by simpa [hi] using ho
      have hc := World.cells?_some (hO i hi).1
      rw [eo] at hc
      intro j c hj
      have hjk : j < k := by have := (List.getElem?_eq_some_iff.1 hj).1; have := hc.2.1; omega
      have h1 := hc.2.2 j hjk
      rw [hj] at h1
      simpa [Addr.add_mid] using h1
    · simp only [DataW.weights, ht, List.all_cons, List.all_append, Bool.and_eq_true, decide_eq_true_eq, List.length_map, List.length_range] at hB
      obtain ⟨hB1, hB2, _⟩ := hB
      refine ⟨?_, ?_⟩
      · rw [hlen]
        have : len * Tryd.prog.bytesOf e ≤ (len + (m - len)) * Tryd.prog.bytesOf e := Nat.mul_le_mul_right _ (by omega)
        omega
      · intro o ho
        simp only [List.mem_map, List.mem_range] at ho
        obtain ⟨i, hi, rfl⟩ := ho
        exact (hO i hi).2.1 (weights_each _ _ _ hB2 _ (List.mem_map.2 ⟨i, List.mem_range.2 (by omega), rfl⟩))
    · simp only [List.mem_map, List.mem_range] at ho
      obtain ⟨i, hi, rfl⟩ := ho
      have h1 := (hO i hi).2.2
      have h2 := bulk_mem _ (D i) (List.mem_map.2 ⟨i, List.mem_range.2 hi, rfl⟩ : D i ∈ (List.range len).map D)
      simp only [Rows.uptoBulk]
      omega
theorem open_rowl {t e : TypeId} {k : Nat} {α : Type} [Inhabited α] (row : α → List Value) (G : α → Prop) (B : Nat) (ht : Tryd.prog.underlying t = some (.slice e)) (hk : Tryd.prog.cellsOf e = k) (hk0 : 0 < k)
    (h : DataW.trod enc Tryd.prog w base spare held fuel t cs = some x)
    (hel : ∀ fuel cs x, DataW.trod enc Tryd.prog w base spare held fuel e cs = some x → ∃ a : α, cs = row a ∧ ((DataW.weights Tryd.prog e x.1).all (· ≤ B) = true → G a)) :
    ∃ ao cap ls, cs = [.slice ao ls.length cap] ∧ ls.length ≤ cap ∧ (ao = none → cap = 0) ∧ (ls ≠ [] → ∃ b off, ao = some ⟨b, off, none⟩ ∧ ∀ (i : Nat) (a : α), ls[i]? = some a → w.rangeAt b (off + i * k) (row a)) ∧
      ((DataW.weights Tryd.prog t x.1).all (· ≤ B) = true → ls.length * Tryd.prog.bytesOf e ≤ B ∧ ∀ a, a ∈ ls → G a) := by
  obtain ⟨ao, cap, ls, h1, h2, h3, h4, h5, _⟩ := open_rowlU row G (fun _ => 0) B ht hk hk0 h (fun f c x hx => by
    obtain ⟨a, h1, h2⟩ := hel f c x hx
    exact ⟨a, h1, h2, Nat.zero_le _⟩)
  exact ⟨ao, cap, ls, h1, h2, h3, h4, h5⟩
end
end Go.Proofs.YtnfbiemmdaenpaaDoor

namespace Go.Proofs.YtnfbiemmdaenpaaDoor
open Go.RowKit

theorem drew_two (w : World) (a b : Nat) : ∃ k, (w.drewN a).drewN b = w.drewN k := ⟨a + b, by simp [World.drewN, Nat.add_assoc]⟩
theorem drew_three (w : World) (a b c : Nat) : ∃ k, ((w.drewN a).drewN b).drewN c = w.drewN k := ⟨a + b + c, by simp [World.drewN, Nat.add_assoc]⟩

/-- One of the two is empty. -/
theorem cmp_edge (ao bo : Option Addr) (la lb ca cb : Nat) (w : World) (h : la = 0 ∨ lb = 0) (ha : la ≤ 140737488355328) (hb : lb ≤ 140737488355328) : Calls Tryd.prog 28 #[.slice ao la ca, .slice bo lb cb] w fun e w' => ∃ c, e = .returned (.int .i64 c) ∧ (c = 0 ↔ la = lb) ∧ ∃ n, w' = w.drewN n := by
  rcases h with rfl | rfl
  · by_cases h0 : lb = 0
    · subst h0
      refine (cmp_empty ao bo ca cb w).mono ?_
      rintro e w' ⟨rfl, n, rfl⟩
      exact ⟨0, rfl, by simp, n, rfl⟩
    · have h1 : 1 ≤ lb := by omega
      go_enter Tryd.func28, Tryd.ntmps28
      go_wp2
      refine wp_loop_rounds 1 ?_
      rw [rounds_succ]
      go_wp2
      go_ret
      exact ⟨-1, rfl, by constructor <;> intro h <;> omega, 0, rfl⟩
  · by_cases h0 : la = 0
    · subst h0
      refine (cmp_empty ao bo ca cb w).mono ?_
      rintro e w' ⟨rfl, n, rfl⟩
      exact ⟨0, rfl, by simp, n, rfl⟩
    · have h1 : 1 ≤ la := by omega
      go_enter Tryd.func28, Tryd.ntmps28
      go_wp2
      refine wp_loop_rounds 1 ?_
      rw [rounds_succ]
      go_wp2
      go_ret
      exact ⟨1, rfl, by constructor <;> intro h <;> omega, 0, rfl⟩

theorem take_ne {us vs : List Int} {k : Nat} (h : us[k]?.getD 0 ≠ vs[k]?.getD 0) : us ≠ vs := by
  rintro rfl; exact h rfl
theorem take_eq_succ {us vs : List Int} {k : Nat} (ha : k < us.length) (hb : k < vs.length) (h : us.take k = vs.take k) (he : us[k]?.getD 0 = vs[k]?.getD 0) : us.take (k + 1) = vs.take (k + 1) := by
  rw [take_snoc us k ha, take_snoc vs k hb, h]
  congr 2
theorem list_of_take {us vs : List Int} {k : Nat} (h : us.take k = vs.take k) (hk : us.length ≤ k ∨ vs.length ≤ k) : us = vs ↔ us.length = vs.length := by
  refine ⟨fun e => by rw [e], fun e => ?_⟩
  rw [List.take_of_length_le (by omega), List.take_of_length_le (by omega)] at h
  exact h

set_option maxHeartbeats 2000000 in
theorem cmp_both (b1 o1 c1 b2 o2 c2 : Nat) (us vs : List Int) (w : World) (ha : us.length ≤ 140737488355328) (_hb : vs.length ≤ 140737488355328)
    (h1 : ∀ i, i < us.length → w.cell? ⟨b1, o1 + i, none⟩ = some (.int .u8 (us[i]?.getD 0))) (h2 : ∀ i, i < vs.length → w.cell? ⟨b2, o2 + i, none⟩ = some (.int .u8 (vs[i]?.getD 0))) :
    Calls Tryd.prog 28 #[.slice (some ⟨b1, o1, none⟩) us.length c1, .slice (some ⟨b2, o2, none⟩) vs.length c2] w fun e w' => ∃ c, e = .returned (.int .i64 c) ∧ (c = 0 ↔ us = vs) ∧ ∃ n, w' = w.drewN n := by
  go_enter Tryd.func28, Tryd.ntmps28
  go_wp2
  go_loopw [5] (fun i wr => ∃ k : Nat, k ≤ us.length ∧ k ≤ vs.length ∧ i = .int .i64 k ∧ Hid (us.take k = vs.take k) ∧ ∃ n, wr = w.drewN n) (fun i _ => us.length - (intOf i).toNat)
  case atStart => exact ⟨0, Nat.zero_le _, Nat.zero_le _, rfl, rfl, 0, rfl⟩
  case round =>
    obtain ⟨k, hka, hkb, rfl, HT, n, rfl⟩ := hrel
    by_cases hlt : k < us.length
    · by_cases hlt2 : k < vs.length
      · have g1 := h1 k hlt
        have g2 := h2 k hlt2
        have hne := take_ne (us := us) (vs := vs) (k := k)
        have heq := take_eq_succ hlt hlt2 HT.out
        obtain ⟨x, hx⟩ : ∃ x, x = us[k]?.getD 0 := ⟨_, rfl⟩
        obtain ⟨y, hy⟩ : ∃ y, y = vs[k]?.getD 0 := ⟨_, rfl⟩
        rw [← hx] at g1 hne heq
        rw [← hy] at g2 hne heq
        have HNE : Hid (x ≠ y → us ≠ vs) := hne
        have HEQ : Hid (x = y → us.take (k + 1) = vs.take (k + 1)) := heq
        clear hx hy h1 h2 hne heq
        have i0 : (0 : Int) ≤ (k : Int) := by omega
        have i1 : (k : Int) < (us.length : Int) := by omega
        have i2 : (k : Int) < (vs.length : Int) := by omega
        rcases Int.lt_trichotomy x y with hxy | hxy | hxy
        · go_wp2
          go_quiet (fail)
          go_wp2
          go_ret
          exact ⟨-1, rfl, ⟨fun h => absurd h (by decide), fun h => absurd h (HNE.out (by omega))⟩, (by first | exact ⟨_, rfl⟩ | exact drew_two _ _ _ | exact drew_three _ _ _ _)⟩
        · subst hxy
          have HE : Hid (us.take (k + 1) = vs.take (k + 1)) := HEQ.out rfl
          clear HEQ HNE
          go_wp2
          go_quiet (fail)
          go_wp2
          go_quiet (fail)
          go_wp2
          go_roundw
          case rel => exact ⟨k + 1, by omega, by omega, by go_num, HE, (by first | exact ⟨_, rfl⟩ | exact drew_two _ _ _ | exact drew_three _ _ _ _)⟩
          case measure => simp [intOf]; omega
        · have hyx : ¬ x < y := by omega
          go_wp2
          go_quiet (fail)
          go_wp2
          go_quiet (fail)
          go_wp2
          go_ret
          exact ⟨1, rfl, ⟨fun h => absurd h (by decide), fun h => absurd h (HNE.out (by omega))⟩, (by first | exact ⟨_, rfl⟩ | exact drew_two _ _ _ | exact drew_three _ _ _ _)⟩
      · have hl := list_of_take HT.out (Or.inr (by omega))
        have HL : Hid _ := hl
        clear h1 h2 hl
        go_wp2
        go_ret
        exact ⟨1, rfl, ⟨fun h => absurd h (by decide), fun h => by have := HL.out.1 h; omega⟩, _, rfl⟩
    · have hl := list_of_take HT.out (Or.inl (by omega))
      have HL : Hid (us = vs ↔ us.length = vs.length) := hl
      clear h1 h2 hl
      by_cases hlt2 : us.length < vs.length
      · go_wp2
        go_ret
        exact ⟨-1, rfl, ⟨fun h => absurd h (by decide), fun h => by have := HL.out.1 h; omega⟩, _, rfl⟩
      · go_wp2
        go_ret
        exact ⟨0, rfl, ⟨fun _ => HL.out.2 (by omega), fun _ => rfl⟩, _, rfl⟩

theorem Cmp_any {w : World} {u v : Value} {us vs : List Int} (hu : BytesAt w u us) (hv : BytesAt w v vs) (ha : us.length ≤ 140737488355328) (hb : vs.length ≤ 140737488355328) : Calls Tryd.prog 28 #[u, v] w fun e w' => ∃ c, e = .returned (.int .i64 c) ∧ (c = 0 ↔ us = vs) ∧ ∃ n, w' = w.drewN n := by
  rcases hu.parts with ⟨rfl, ao, ca, rfl⟩ | ⟨b1, o1, c1, rfl, _, h0, h1⟩
  · obtain ⟨bo, cb, rfl, _⟩ := hv
    refine (cmp_edge ao bo 0 vs.length ca cb w (Or.inl rfl) (by decide) hb).mono ?_
    rintro e w' ⟨c, he, hc, hn⟩
    exact ⟨c, he, hc.trans ⟨fun h => (List.eq_nil_of_length_eq_zero h.symm).symm, fun h => by rw [← h]; rfl⟩, hn⟩
  · rcases hv.parts with ⟨rfl, bo, cb, rfl⟩ | ⟨b2, o2, c2, rfl, _, _, h2⟩
    · refine (cmp_edge (some ⟨b1, o1, none⟩) bo us.length 0 c1 cb w (Or.inr rfl) ha (by decide)).mono ?_
      rintro e w' ⟨c, he, hc, hn⟩
      exact ⟨c, he, hc.trans ⟨fun h => List.eq_nil_of_length_eq_zero h, fun h => by rw [h]; rfl⟩, hn⟩
    · exact cmp_both b1 o1 c1 b2 o2 c2 us vs w ha hb h1 h2

theorem Eq_any {w : World} {u v : Value} {us vs : List Int} (hu : BytesAt w u us) (hv : BytesAt w v vs) (ha : us.length ≤ 140737488355328) (hb : vs.length ≤ 140737488355328) : Calls Tryd.prog 12 #[u, v] w fun e w' => e = .returned (.bool (decide (us = vs))) ∧ ∃ n, w' = w.drewN n := by
  have hcall := Cmp_any hu hv ha hb
  obtain ⟨ao, ca, rfl, _⟩ := hu
  obtain ⟨bo, cb, rfl, _⟩ := hv
  by_cases he : us = vs
  · have hd : decide (us = vs) = true := decide_eq_true he
    have hz : Hid (∀ c : Int, (c = 0 ↔ us = vs) → c = 0) := fun c h => h.2 he
    rw [hd]
    clear hd he
    go_enter Tryd.func12, Tryd.ntmps12
    go_wp2_with (go_at_call 28; refine hcall.mono ?_; rintro e w1 ⟨c, rfl, hc, n, rfl⟩; have hc0 := hz.out c hc; subst hc0; clear hc)
    go_ret
    exact ⟨rfl, _, rfl⟩
  · have hd : decide (us = vs) = false := decide_eq_false he
    have hz : Hid (∀ c : Int, (c = 0 ↔ us = vs) → (c == 0) = false) := fun c h => beq_eq_false_iff_ne.2 (fun h0 => he (h.1 h0))
    rw [hd]
    clear hd he
    go_enter Tryd.func12, Tryd.ntmps12
    go_wp2_with (go_at_call 28; refine hcall.mono ?_; rintro e w1 ⟨c, rfl, hc, n, rfl⟩; have hc0 := hz.out c hc; clear hc)
    go_ret
    exact ⟨rfl, _, rfl⟩

end Go.Proofs.YtnfbiemmdaenpaaDoor

namespace Go.Proofs.YtnfbiemmdaenpaaDoor
open Go.RowKit

/-- A part of a slice of bytes, as the machine cuts it. -/
def cutA (ao : Option Addr) (cap lo : Nat) : Option Addr := if cap = lo then ao else Option.map (fun x => x.add lo) ao
theorem bytes_cut {w : World} {ao : Option Addr} {n cap : Nat} {ys : List Int} (h : BytesAt w (.slice ao n cap) ys) (lo m : Nat) (h2 : lo + m ≤ ys.length) :
    BytesAt w (.slice (cutA ao cap lo) m (cap - lo)) ((ys.drop lo).take m) ∧ ((ys.drop lo).take m ≠ [] → ∀ k, blkOf (.slice (cutA ao cap lo) m (cap - lo)) = some k → blkOf (.slice ao n cap) = some k) := by
  have hl : ((ys.drop lo).take m).length = m := by rw [List.length_take, List.length_drop]; omega
  obtain ⟨ao', cap', he, hc, hnil, hh⟩ := h
  injection he with e1 e2 e3
  subst e1 e2 e3
  unfold cutA
  refine ⟨⟨if cap = lo then ao else Option.map (fun x => x.add lo) ao, cap - lo, by rw [hl], by omega, fun e => ?_, fun hne => ?_⟩, ?_⟩
  · by_cases hcl : cap = lo
    · omega
    · rw [if_neg hcl] at e
      cases ao with
      | none => have := hnil rfl; omega
      | some a => simp at e
  · have hne2 : ys ≠ [] := by rintro rfl; simp at hne
    obtain ⟨b, off, rfl, hcell⟩ := hh hne2
    have hpos : 0 < ((ys.drop lo).take m).length := List.length_pos_iff.2 hne
    have hcl : ¬ cap = lo := by omega
    rw [if_neg hcl]
    refine ⟨b, off + lo, by simp [Addr.add_mid], fun i u hu => ?_⟩
    have hi' : i < m := by have := (List.getElem?_eq_some_iff.1 hu).1; omega
    rw [List.getElem?_take_of_lt hi', List.getElem?_drop] at hu
    have := hcell (lo + i) u hu
    rwa [show off + lo + i = off + (lo + i) by omega]
  · intro hne k hk
    have hne2 : ys ≠ [] := by rintro rfl; simp at hne
    obtain ⟨b, off, rfl, hcell⟩ := hh hne2
    have hpos : 0 < ((ys.drop lo).take m).length := List.length_pos_iff.2 hne
    have hcl : ¬ cap = lo := by omega
    rw [if_neg hcl] at hk
    simpa [blkOf, Addr.add_mid] using hk
theorem bytes_tail {w : World} {ao : Option Addr} {n cap : Nat} {ys : List Int} (h : BytesAt w (.slice ao n cap) ys) (lo : Nat) (h2 : lo ≤ ys.length) :
    BytesAt w (.slice (cutA ao cap lo) (ys.length - lo) (cap - lo)) (ys.drop lo) := by
  have e := (bytes_cut h lo (ys.length - lo) (by omega)).1
  rwa [List.take_of_length_le (by simp)] at e
end Go.Proofs.YtnfbiemmdaenpaaDoor

namespace Go.Proofs.YtnfbiemmdaenpaaDoor
open Go.RowKit

set_option maxHeartbeats 400000 in
theorem Copy_any (v : Value) (ys : List Int) (w : World) (h : BytesAt w v ys) (hm : ys.length ≤ 140737488355328) :
    Calls Tryd.prog 23 #[v] w fun e w' => e = .returned (.slice (some ⟨w.heap.size, 0, none⟩) ys.length ys.length) ∧
      w'.heap[w.heap.size]? = some (.cells (ys.map (Value.int .u8)).toArray 5 (0, 0)) ∧ Kept [] w w' := by
  obtain ⟨ao, cap, rfl, hc, hnil, hcell⟩ := h
  have hmk := run_make_row' (P := Tryd.prog) 22 5 (.int .u8 0) 1 Tryd.underlying22 Tryd.info_u8 rfl .i64 .i64 ys.length (by omega) (by omega)
  obtain ⟨cs, hcs⟩ : ∃ cs, cs = ys.map (Value.int .u8) := ⟨_, rfl⟩
  have HC : Hid (cs = ys.map (Value.int .u8)) := hcs
  clear hcs
  go_enter Tryd.func23, Tryd.ntmps23
  go_wp2_with (refine wpList_copy_splice rfl (.tmp 7) (.tmp 8) 22 22 rfl 5 Tryd.underlying22 Tryd.size_u8 _ _ _ _ _ _ rfl rfl w.heap.size 0 (List.replicate ys.length (.int .u8 0)) 5 ?cg cs ?cn ?cp ?cf ?co w.heap.size w ?cb (Nat.le_refl _) ?_)
  case cg => rw [← toList_madeCells_one]; exact heap_alloc_new w _
  case cn => rw [HC.out]; simp
  case cp =>
    intro h0
    rw [HC.out] at h0
    obtain ⟨b, off, rfl, hh⟩ := hcell (by rintro rfl; simp at h0)
    refine ⟨_, rfl, fun j u hu => ?_⟩
    rw [HC.out] at hu
    simp only [List.getElem?_map, Option.map_eq_some_iff] at hu
    obtain ⟨z, hz, rfl⟩ := hu
    rw [Addr.add_mid, World.cell?_alloc_lt]
    · exact hh j z hz
    · exact World.block_lt_of_cell? w _ (hh j z hz)
  case cf => rw [HC.out]; simp
  case co => rw [HC.out]; exact map_oneCell ys
  case cb => exact (Below.refl _ _).alloc (Nat.le_refl _) _
  intro w2 hg hb
  go_wp2
  go_ret
  refine ⟨rfl, ?_, kept_of_below hb⟩
  rw [hg.out, splice_all _ _ _ (by rw [HC.out]; simp), HC.out]
end Go.Proofs.YtnfbiemmdaenpaaDoor
