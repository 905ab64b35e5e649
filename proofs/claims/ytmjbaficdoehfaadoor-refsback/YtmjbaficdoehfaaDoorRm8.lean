/-
  WALK: refs.Clash.
-/
import Derived.Test.YtmjbaficdoehfaaDoorRm7
namespace Go.Proofs.YtmjbaficdoehfaaDoor
open Go.RowKit Go.Sort

def numsU (u : List UInt8) : List Int := u.map fun b => (b.toNat : Int)
theorem numsU_octs (u : List UInt8) : Octs (numsU u) := fun x hx => by
  obtain ⟨b, _, rfl⟩ := List.mem_map.1 hx
  have := b.toNat_lt
  omega
theorem bytes_nums (u : List UInt8) : bytesU (numsU u) = u := by
  unfold bytesU numsU
  rw [List.map_map]
  conv => rhs; rw [← List.map_id u]
  exact List.map_congr_left fun b _ => by simp
theorem str_numsU (u : List UInt8) : strOfNums (numsU u) = ⟨u.toArray⟩ := by rw [str_of_bytes, bytes_nums]
theorem nums_bytes {xs : List Int} (h : Octs xs) : numsU (bytesU xs) = xs := bytesU_inj (numsU_octs _) h (bytes_nums _)
/-- A list of texts that may be written to, or an empty one. -/
def UAt (w : World) (B : Nat) (v : Value) (U : List (List UInt8)) : Prop :=
  (U = [] ∧ ∃ p cap, v = .slice p 0 cap) ∨ (U ≠ [] ∧ ∃ g cap, v = .slice (some ⟨g, 0, none⟩) U.length cap ∧ B ≤ g ∧ g < w.heap.size ∧ U.length ≤ cap ∧ Holds encStr w g 0 U.toArray)
theorem UAt.form {w : World} {B : Nat} {v : Value} {U : List (List UInt8)} (h : UAt w B v U) : ∃ a cap, v = .slice a U.length cap ∧ (U ≠ [] → ∃ g, a = some ⟨g, 0, none⟩ ∧ B ≤ g ∧ g < w.heap.size ∧ Holds encStr w g 0 U.toArray) := by
  rcases h with ⟨rfl, p, cap, rfl⟩ | ⟨hne, g, cap, rfl, h1, h2, h3, h4⟩
  · exact ⟨p, cap, rfl, fun h => absurd rfl h⟩
  · exact ⟨_, cap, rfl, fun _ => ⟨g, rfl, h1, h2, h4⟩⟩
theorem SortV_any {w : World} {B : Nat} {v : Value} {U : List (List UInt8)} (h : UAt w B v U) (hl : U.length ≤ 1000000) :
    Calls Tryd.prog 28 #[v] w fun e w' => e = .returned (.tuple #[]) ∧ UAt w' B v (U.mergeSort fun x y => decide (x ≤ y)) ∧ ∃ S, Kept S w w' ∧ ∀ y, y ∈ S → B ≤ y := by
  rcases h with ⟨rfl, p, cap, rfl⟩ | ⟨hne, g, cap, rfl, h1, h2, h3, h4⟩
  · refine (Any.slices_Sort_string_none Tryd.laysSortS p cap w).mono ?_
    rintro e w' ⟨he, rfl⟩
    exact ⟨he, Or.inl ⟨by simp, p, cap, rfl⟩, [], Kept.refl _ _, by simp⟩
  · refine (SortS_any h4 h2 hl).mono ?_
    rintro e w' ⟨he, hH, k⟩
    have hlen : (U.mergeSort fun x y => decide (x ≤ y)).length = U.length := by simp
    refine ⟨he, Or.inr ⟨fun e => hne (List.eq_nil_of_length_eq_zero (by rw [← hlen, e]; rfl)), g, cap, by rw [hlen], h1, Nat.lt_of_lt_of_le h2 k.size, by rw [hlen]; exact h3, hH⟩, [g], k, fun y hy => by rw [List.mem_singleton.1 hy]; exact h1⟩
theorem compact_ne {U : List (List UInt8)} (hs : U.Pairwise (fun a b => a ≤ b)) (h : U ≠ []) : Lib.compact U ≠ [] := fun e => by
  obtain ⟨a, ha⟩ := List.exists_mem_of_ne_nil U h
  have := ((compact_sorted hs).2 a).2 ha
  rw [e] at this
  cases this
theorem CompV_any {w : World} {B : Nat} {v : Value} {U : List (List UInt8)} (h : UAt w B v U) (hs : U.Pairwise (fun a b => a ≤ b)) (hl : U.length ≤ 1000000) :
    Calls Tryd.prog 29 #[v] w fun e w' => ∃ v', e = .returned v' ∧ UAt w' B v' (Lib.compact U) ∧ ∃ S, Kept S w w' ∧ ∀ y, y ∈ S → B ≤ y := by
  rcases h with ⟨rfl, p, cap, rfl⟩ | ⟨hne, g, cap, rfl, h1, h2, h3, h4⟩
  · refine (Any.slices_Compact_string_empty Tryd.laysCompS p cap w).mono ?_
    rintro e w' ⟨rfl, rfl⟩
    exact ⟨_, rfl, Or.inl ⟨by simp [Lib.compact, Lib.compactUpTo], p, cap, rfl⟩, [], Kept.refl _ _, by simp⟩
  · refine (CompS_any h4 hl h3).mono ?_
    rintro e w' ⟨rfl, hH, k⟩
    exact ⟨_, rfl, Or.inr ⟨compact_ne hs hne, g, cap, rfl, h1, Nat.lt_of_lt_of_le h2 k.size, Nat.le_trans (Lib.compact_length_le U) h3, hH⟩, [g], k, fun y hy => by rw [List.mem_singleton.1 hy]; exact h1⟩

/-- Two unlike names become t. -/
def HitU (f : List UInt8 → Option (List UInt8)) (U : List (List UInt8)) (t : List UInt8) : Prop := ∃ a b, a ∈ U ∧ b ∈ U ∧ a ≠ b ∧ f a = some t ∧ f b = some t
structure ClashTo (f : List UInt8 → Option (List UInt8)) (U : List (List UInt8)) (r : Option (List UInt8)) : Prop where
  some' : ∀ t, r = some t → HitU f U t ∧ ∀ t', HitU f U t' → t ≤ t'
  none' : r = none → ∀ t, ¬ HitU f U t
theorem ClashTo.uniq {f : List UInt8 → Option (List UInt8)} {U : List (List UInt8)} {r r' : Option (List UInt8)} (h : ClashTo f U r) (h' : ClashTo f U r') : r = r' := by
  cases r with
  | none =>
    cases r' with
    | none => rfl
    | some t => exact absurd (h'.some' t rfl).1 (h.none' rfl t)
  | some t =>
    cases r' with
    | none => exact absurd (h.some' t rfl).1 (h'.none' rfl t)
    | some t' =>
      rw [leU_antisymm ((h.some' t rfl).2 t' (h'.some' t' rfl).1) ((h'.some' t' rfl).2 t (h.some' t rfl).1)]
theorem clash_of_sorted {f : List UInt8 → Option (List UInt8)} {U D S : List (List UInt8)} (hn : D.Nodup) (hm : ∀ u, u ∈ D ↔ u ∈ U) (hp : S.Perm (D.filterMap f)) (t : List UInt8) : 2 ≤ S.count t ↔ HitU f U t := by
  rw [hp.count_eq, two_images hn]
  unfold HitU
  simp only [hm]
/-- What the name becomes. -/
def mapU (rs : List RuleL) (u : List UInt8) : Option (List UInt8) := (mapL rs (numsU u)).map fun x => bytesU x.1
def strV (r : Option (List UInt8)) : Value := .tuple #[.string ⟨(r.getD []).toArray⟩, .bool r.isSome]
theorem mapU_none {rs : List RuleL} {u : List UInt8} (h : mapL rs (numsU u) = none) : mapU rs u = none := by unfold mapU; rw [h]; rfl
theorem mapU_some {rs : List RuleL} {u : List UInt8} {t : List Int} {b : Bool} (h : mapL rs (numsU u) = some (t, b)) : mapU rs u = some (bytesU t) := by unfold mapU; rw [h]; rfl

set_option maxRecDepth 100000 in
set_option maxHeartbeats 4000000 in
theorem Clash_any (v nv : Value) (rs : List RuleL) (L : List (List Int)) (w : World) (hv : RulesAt w v rs) (hg : ∀ r, r ∈ rs → r.Good) (hn : StrsAt w nv L) (ho : ∀ p, p ∈ L → p.length ≤ 100000000000000000) (hl : L.length ≤ 100000) (hT : Tabs w) (hM : MaxW w) :
    Calls Tryd.prog 13 #[v, nv] w fun e w' => ∃ r, e = .returned (strV r) ∧ ClashTo (mapU rs) (L.map bytesU) r ∧ Kept [] w w' := by
  have hclone := CloneS_any nv L w hn (by omega)
  have HMP : Hid (∀ n, n ∈ L.map bytesU → ∀ W, Kept [] w W → Calls Tryd.prog 8 #[v, .string ⟨n.toArray⟩] W fun e w' => e = .returned (mapV (mapL rs (numsU n))) ∧ Kept [] W w') := fun n hm W k => by
    obtain ⟨p, hp, rfl⟩ := List.mem_map.1 hm
    have h := Map_any v rs (numsU (bytesU p)) W (hv.kept k) hg (numsU_octs _) (by unfold numsU; rw [List.length_map, bytesU_len]; exact ho p hp) (hT.kept k) (hM.kept k)
    rw [str_numsU] at h
    exact h
  clear hv hg hn ho hT hM
  obtain ⟨U, hU⟩ : ∃ U, U = L.map bytesU := ⟨_, rfl⟩
  have hUl : U.length ≤ 100000 := by rw [hU, List.length_map]; exact hl
  have hUn : L = [] ↔ U = [] := by rw [hU]; simp
  rw [← hU] at hclone HMP ⊢
  clear hU hl
  have hclone2 : Calls Tryd.prog 27 #[nv] w fun e w' => ∃ v', e = .returned v' ∧ UAt w' w.heap.size v' U ∧ Kept [] w w' := hclone.mono fun e w' ⟨v', h1, h2, h3⟩ => ⟨v', h1, by
    rcases h2 with ⟨h, p⟩ | ⟨h, p⟩
    · exact Or.inl ⟨hUn.1 h, p⟩
    · exact Or.inr ⟨fun e => h (hUn.2 e), p⟩, h3⟩
  clear hclone hUn
  obtain ⟨S1, hS1⟩ : ∃ S1, S1 = U.mergeSort fun x y => decide (x ≤ y) := ⟨_, rfl⟩
  have hs1 : S1.Pairwise (fun a b => a ≤ b) := by rw [hS1]; exact merge_sorted U
  have hp1 : S1.Perm U := by rw [hS1]; exact List.mergeSort_perm _ _
  obtain ⟨hD1, hD2⟩ := compact_sorted hs1
  have hD3 : ∀ u, u ∈ Lib.compact S1 ↔ u ∈ U := fun u => (hD2 u).trans hp1.mem_iff
  have hDl : (Lib.compact S1).length ≤ 100000 := by
    have := Lib.compact_length_le S1
    have := hp1.length_eq
    omega
  have hS1l : S1.length ≤ 1000000 := by have := hp1.length_eq; omega
  have HSORT : Hid (∀ W vv, UAt W w.heap.size vv U → Calls Tryd.prog 28 #[vv] W fun e w' => e = .returned (.tuple #[]) ∧ UAt w' w.heap.size vv S1 ∧ ∃ S, Kept S W w' ∧ ∀ y, y ∈ S → w.heap.size ≤ y) := fun W vv h => by rw [hS1]; exact SortV_any h (by omega)
  have HCOMP : Hid (∀ W vv, UAt W w.heap.size vv S1 → Calls Tryd.prog 29 #[vv] W fun e w' => ∃ v', e = .returned v' ∧ UAt w' w.heap.size v' (Lib.compact S1) ∧ ∃ S, Kept S W w' ∧ ∀ y, y ∈ S → w.heap.size ≤ y) := fun W vv h => CompV_any h hs1 hS1l
  have HSORT2 : Hid (∀ W vv X, X.length ≤ 100000 → UAt W w.heap.size vv X → Calls Tryd.prog 28 #[vv] W fun e w' => e = .returned (.tuple #[]) ∧ UAt w' w.heap.size vv (X.mergeSort fun x y => decide (x ≤ y)) ∧ ∃ S, Kept S W w' ∧ ∀ y, y ∈ S → w.heap.size ≤ y) := fun W vv X hX h => SortV_any h (by omega)
  obtain ⟨D, hD⟩ : ∃ D, D = Lib.compact S1 := ⟨_, rfl⟩
  rw [← hD] at hD1 hD3 hDl HCOMP
  have HD : Hid (D.Nodup ∧ ∀ u, u ∈ D ↔ u ∈ U) := ⟨hD1, hD3⟩
  clear hS1 hs1 hp1 hD2 hD hD1 hD3 hS1l
  go_enter Tryd.func13, Tryd.ntmps13
  go_wp2_with fail
  go_at_call 27
  refine hclone2.mono ?_
  rintro e w1 ⟨v1, rfl, hu1, k1⟩
  have HK1 : Hid (Kept [] w w1) := k1
  have hsort := HSORT.out w1 v1 hu1
  obtain ⟨a1, cap1, rfl, _⟩ := hu1.form
  clear k1 hu1 hclone2
  go_wp2_with fail
  go_at_call 28
  refine hsort.mono ?_
  rintro e w2 ⟨rfl, hu2, S, kS, hS⟩
  have HK2 : Hid (Kept [] w w2) := HK1.out.trans kS (fun y hy => Or.inr (hS y hy))
  have hcomp := HCOMP.out w2 _ hu2
  clear hsort hu2 kS hS
  go_wp2_with fail
  go_at_call 29
  refine hcomp.mono ?_
  rintro e w3 ⟨v3, rfl, hu3, S', kS', hS'⟩
  have HK3 : Hid (Kept [] w w3) := HK2.out.trans kS' (fun y hy => Or.inr (hS' y hy))
  obtain ⟨a3, cap3, rfl, hc3⟩ := hu3.form
  have HC3 : Hid (D ≠ [] → ∃ g, a3 = some ⟨g, 0, none⟩ ∧ w.heap.size ≤ g ∧ g < w3.heap.size ∧ Holds encStr w3 g 0 D.toArray) := hc3
  have hsz3 : w.heap.size ≤ w3.heap.size := HK3.out.size
  clear hcomp hu3 kS' hS' hc3 HK1 HK2
  go_wp2
  go_loopw [7, 21] (fun s7 s21 wr => ∃ (k : Nat) (u : Value) (T : List (List UInt8)), u = s7 ∧ k ≤ D.length ∧ s21 = .int .i64 k ∧ T.length ≤ k ∧ Hid (T = (D.take k).filterMap (mapU rs)) ∧ Hid (wr.ownsRow w3.heap.size 9 1 u (T.map encStr).length (T.map encStr)) ∧ Hid (Kept [] w3 wr)) (fun _ s21 _ => D.length - (intOf s21).toNat)
  case atStart => exact ⟨0, _, [], rfl, Nat.zero_le _, rfl, Nat.le_refl _, rfl, World.ownsRow_nil _ _ _ _, Kept.refl _ _⟩
  case round =>
    obtain ⟨k, u, T, rfl, hk, rfl, hTk, HTT, HO, HK⟩ := hrel
    have hsz4 : w3.heap.size ≤ wr.heap.size := HK.out.size
    by_cases hlt : k < D.length
    · have t0 : decide ((k : Int) < (D.length : Int)) = true := by simp; omega
      obtain ⟨n, hn⟩ : ∃ n, D[k]? = some n := ⟨_, List.getElem?_eq_getElem hlt⟩
      obtain ⟨g, rfl, hBg, hgl, hH⟩ := HC3.out (by rintro rfl; simp at hlt)
      have hHr := (holds_kept hH hgl HK.out (by simp)) k (by simpa using hlt)
      have hcell : wr.cell? ⟨g, k, none⟩ = some (.string ⟨n.toArray⟩) := by
        have h1 := hHr.1
        rw [Nat.zero_add, getElem!_pos _ k (by simpa using hlt)] at h1
        rw [h1]
        obtain ⟨_, e⟩ := List.getElem?_eq_some_iff.1 hn
        simp only [List.getElem_toArray, e]
      have hmap := HMP.out n ((HD.out.2 n).1 (List.mem_of_getElem? hn)) wr (HK3.out.then HK.out)
      have HT1 : Hid (mapU rs n = none → T = (D.take (k + 1)).filterMap (mapU rs)) := fun h => by
        rw [List.take_add_one, hn, List.filterMap_append, HTT.out]
        simp [h]
      have HT2 : Hid (∀ t, mapU rs n = some t → T ++ [t] = (D.take (k + 1)).filterMap (mapU rs)) := fun t h => by
        rw [List.take_add_one, hn, List.filterMap_append, HTT.out]
        simp [h]
      have i0 : (0 : Int) ≤ (k : Int) := by omega
      have i1 : (k : Int) < (D.length : Int) := by omega
      clear hHr hH hn
      cases hm : mapL rs (numsU n) with
      | none =>
        have HN : Hid (T = (D.take (k + 1)).filterMap (mapU rs)) := HT1.out (mapU_none hm)
        rw [hm, mapV_none] at hmap
        clear HT1 HT2 hm
        generalize (⟨n.toArray⟩ : ByteArray) = SN at *
        go_wp2_with (go_at_call 8; refine hmap.mono ?_; rintro e w4 ⟨rfl, k4⟩
                     have HO4 : Hid (w4.ownsRow w3.heap.size 9 1 u (T.map encStr).length (T.map encStr)) := ownsK_on' HO.out k4
                     have HK4 : Hid (Kept [] w3 w4) := HK.out.then k4
                     clear k4)
        go_roundw
        case rel => exact ⟨k + 1, _, T, rfl, by omega, by go_num, by omega, HN, HO4, HK4⟩
        case measure => simp [intOf]; omega
      | some tf =>
        obtain ⟨t, b⟩ := tf
        have HN : Hid (T ++ [bytesU t] = (D.take (k + 1)).filterMap (mapU rs)) := HT2.out _ (mapU_some hm)
        rw [hm, mapV_some, str_of_bytes] at hmap
        clear HT1 HT2 hm
        generalize bytesU t = tb at *
        generalize (⟨n.toArray⟩ : ByteArray) = SN at *
        have hml : (T.map encStr).length ≤ 1000000 := by rw [List.length_map]; omega
        have HB : Hid (∀ x, u.ownBlock = some x → w3.heap.size ≤ x) := fun x hx => (World.ownsRow.lt HO.out x hx).1
        have HAP : Hid (∀ (W : World) (vv : Value), W.ownsRow w3.heap.size 9 1 vv ((T.map encStr) ++ [encStr tb]).length ((T.map encStr) ++ [encStr tb]) → W.ownsRow w3.heap.size 9 1 vv ((T ++ [tb]).map encStr).length ((T ++ [tb]).map encStr)) := fun W vv h => by
          rw [List.map_append]
          exact h
        obtain ⟨ST, hST⟩ : ∃ ST : ByteArray, ST = ⟨tb.toArray⟩ := ⟨_, rfl⟩
        have HST : Hid (encStr tb = Value.string ST) := by
          have h : encStr tb = Value.string ST := by rw [hST]
          exact h
        rw [← hST] at hmap
        clear hST
        go_wp2_with (first
          | (go_at_call 8; refine hmap.mono ?_; rintro e w4 ⟨rfl, k4⟩
             have HO4 : Hid (∀ o, (w4.alloc o).ownsRow w3.heap.size 9 1 u (T.map encStr).length (T.map encStr)) := fun o => ownsK_on' (ownsK_on' HO.out k4) ((Kept.refl _ _).alloc _)
             have HC4 : Hid ((w4.alloc (.cells #[.string ST] 9)).cell? ⟨w4.heap.size, 0, none⟩ = some (encStr tb)) := by
               rw [cell_of_row _ _ _ _ _ _ (heap_alloc_new w4 _), HST.out]
               rfl
             have HK4 : Hid (∀ o, Kept [] w3 (w4.alloc o)) := fun o => (HK.out.then k4).alloc o
             have hsz5 : w3.heap.size ≤ w4.heap.size := Nat.le_trans hsz4 k4.size
             clear k4)
          | (at_builtin; refine wpList_append_one rfl (.tmp 33) (.tmp 35) 23 9 (.string ⟨#[]⟩) 16 Tryd.underlying23 Tryd.info_str rfl rfl rfl (HO4.out _) rfl HC4.out rfl hml (by decide) (by simp; omega) ?_
             intro v5 w5 h5 k5 _
             have HO5 : Hid (w5.ownsRow w3.heap.size 9 1 v5 ((T ++ [tb]).map encStr).length ((T ++ [tb]).map encStr)) := HAP.out _ _ h5
             have hq : ∀ y, y ∈ u.ownBlock.toList → w3.heap.size ≤ y := fun y hy => HB.out y (by simpa using hy)
             have HK5 : Hid (Kept [] w3 w5) := (HK4.out _).trans k5 (fun y hy => Or.inr (hq y hy))
             clear h5 k5 hq))
        go_roundw
        case rel => exact ⟨k + 1, _, T ++ [tb], rfl, by omega, by go_num, by simp; omega, HN, HO5, HK5⟩
        case measure => simp [intOf]; omega
    · have t0 : decide ((k : Int) < (D.length : Int)) = false := by simp; omega
      have HP : Hid (∀ S : List (List UInt8), S.Perm T → ∀ t, 2 ≤ S.count t ↔ HitU (mapU rs) U t) := fun S hS t => by
        have h := HTT.out
        rw [List.take_of_length_le (by omega)] at h
        rw [h] at hS
        exact clash_of_sorted HD.out.1 HD.out.2 hS t
      have hTl : T.length ≤ 100000 := by omega
      have hut : UAt wr w.heap.size u T := by
        by_cases hTn : T = []
        · refine Or.inl ⟨hTn, ?_⟩
          subst hTn
          rcases HO.out.2 with ⟨h, _⟩ | ⟨g, c, _, h, _⟩
          · exact ⟨_, _, h⟩
          · exact ⟨_, _, h⟩
        · obtain ⟨g, c, h1, h2, h3, h4, h5⟩ := own_holds HO.out (by rw [List.length_map]) hTn
          exact Or.inr ⟨hTn, g, c, h1, by omega, h3, h4, h5⟩
      have hsort := HSORT2.out wr u T hTl hut
      obtain ⟨au, capu, rfl, _⟩ := hut.form
      have HKw : Hid (Kept [] w wr) := HK3.out.then HK.out
      obtain ⟨S, hS⟩ : ∃ S, S = T.mergeSort fun x y => decide (x ≤ y) := ⟨_, rfl⟩
      have HSS : Hid (S.Pairwise (fun a b => a ≤ b) ∧ S.Perm T) := by rw [hS]; exact ⟨merge_sorted T, List.mergeSort_perm _ _⟩
      rw [← hS] at hsort
      have hSl : S.length = T.length := HSS.out.2.length_eq
      have HPS : Hid (∀ t, 2 ≤ S.count t ↔ HitU (mapU rs) U t) := HP.out S HSS.out.2
      clear hut hS HP HTT HO HK
      go_wp2_with fail
      go_at_call 28
      refine hsort.mono ?_
      rintro e w5 ⟨rfl, hu5, SS, kSS, hSS⟩
      have HK5 : Hid (Kept [] w w5) := HKw.out.trans kSS (fun y hy => Or.inr (hSS y hy))
      obtain ⟨a5, cap5, he5, hc5⟩ := hu5.form
      rw [hSl] at he5
      injection he5 with e1 e2 e3
      subst e1 e3
      have HC5 : Hid (S ≠ [] → ∃ g, au = some ⟨g, 0, none⟩ ∧ w.heap.size ≤ g ∧ g < w5.heap.size ∧ Holds encStr w5 g 0 S.toArray) := hc5
      clear hsort hu5 kSS hSS hc5 e2
      go_wp2
      go_loopw [13] (fun s13 wq => ∃ i : Nat, 1 ≤ i ∧ (i ≤ T.length ∨ i = 1) ∧ s13 = .int .i64 i ∧ Hid (Kept [] w5 wq) ∧ Hid (∀ j, j + 1 < i → S[j]? ≠ S[j + 1]?)) (fun s13 _ => T.length + 1 - (intOf s13).toNat)
      case atStart => exact ⟨1, Nat.le_refl _, Or.inr rfl, rfl, Kept.refl _ _, fun j hj => by omega⟩
      case round =>
        obtain ⟨i, hi1, hi2, rfl, HKq, HJ⟩ := hrel
        by_cases hilt : i < T.length
        · have t1 : decide ((i : Int) < (T.length : Int)) = true := by simp; omega
          obtain ⟨g, rfl, hBg, hgl, hH⟩ := HC5.out (by intro e; rw [e] at hSl; simp at hSl; omega)
          have hHw := holds_kept hH hgl HKq.out (by simp)
          have hH1 := (hHw (i - 1) (by simp; omega)).1
          have hH2 := (hHw i (by simp; omega)).1
          rw [Nat.zero_add, getElem!_pos _ (i - 1) (by simp; omega)] at hH1
          rw [Nat.zero_add, getElem!_pos _ i (by simp; omega)] at hH2
          simp only [List.getElem_toArray] at hH1 hH2
          have hg1 : S[i - 1]? = some (S[i - 1]'(by omega)) := List.getElem?_eq_getElem _
          have hg2 : S[i]? = some (S[i]'(by omega)) := List.getElem?_eq_getElem _
          generalize S[i - 1]'(by omega) = x1 at *
          generalize S[i]'(by omega) = x2 at *
          have heq : ((⟨x1.toArray⟩ : ByteArray).toList == (⟨x2.toArray⟩ : ByteArray).toList) = decide (x1 = x2) := by
            rw [Lib.toList_data, Lib.toList_data, Bool.eq_iff_iff, beq_iff_eq, decide_eq_true_eq]
          have hc1 : ∀ n, (wr.drewN n).cell? ⟨g, i - 1, none⟩ = some (.string ⟨x1.toArray⟩) := fun n => hH1
          have hc2 : ∀ n, (wr.drewN n).cell? ⟨g, i, none⟩ = some (.string ⟨x2.toArray⟩) := fun n => hH2
          have i0 : (0 : Int) ≤ (i : Int) - 1 := by omega
          have i1 : (i : Int) - 1 < (T.length : Int) := by omega
          have i2 : (0 : Int) ≤ (i : Int) := by omega
          have i3 : (i : Int) < (T.length : Int) := by omega
          have hnat : ((i : Int) - 1).toNat = i - 1 := by omega
          by_cases hx : x1 = x2
          · have HF : Hid (ClashTo (mapU rs) U (some x2)) := by
              have hd := dup_first HSS.out.1 (i := i - 1) (t := x2) (by rw [hg1, hx]) (by rw [show i - 1 + 1 = i by omega]; exact hg2) (fun j hj => HJ.out j (by omega))
              exact ⟨fun t ht => by
                injection ht with ht
                subst ht
                exact ⟨(HPS.out _).1 hd.1, fun t' h' => hd.2 t' ((HPS.out t').2 h')⟩, (fun h => by cases h)⟩
            rw [decide_eq_true hx] at heq
            clear hg1 hg2 hHw hH hx HJ
            generalize (⟨x1.toArray⟩ : ByteArray) = X1 at *
            obtain ⟨X2, hX2⟩ : ∃ X2 : ByteArray, X2 = ⟨x2.toArray⟩ := ⟨_, rfl⟩
            have HX2 : Hid (strV (some x2) = .tuple #[.string X2, .bool true]) := by
              have h : strV (some x2) = .tuple #[.string X2, .bool true] := by rw [hX2]; rfl
              exact h
            rw [← hX2] at heq
            have hc2' : ∀ n, (wr.drewN n).cell? ⟨g, i, none⟩ = some (.string X2) := fun n => by rw [hX2]; exact hc2 n
            have hc20 : wr.cell? ⟨g, i, none⟩ = some (.string X2) := hc2' 0
            clear hX2 hc2 hH2
            go_wp2
            go_quiet (fail)
            go_wp2
            go_ret2
            exact ⟨some x2, by rw [HX2.out]; rfl, HF.out, HK5.out.then (HKq.out.drewN _)⟩
          · have HN : Hid (∀ j, j + 1 < i + 1 → S[j]? ≠ S[j + 1]?) := fun j hj => by
              by_cases e : j + 1 = i
              · obtain rfl : j = i - 1 := by omega
                rw [show i - 1 + 1 = i by omega, hg1, hg2]
                intro h
                injection h with h
                exact hx h
              · exact HJ.out j (by omega)
            rw [decide_eq_false hx] at heq
            clear hg1 hg2 hHw hH hx HJ
            generalize (⟨x1.toArray⟩ : ByteArray) = X1 at *
            generalize (⟨x2.toArray⟩ : ByteArray) = X2 at *
            go_wp2
            go_quiet (fail)
            go_wp2
            go_roundw
            case rel => exact ⟨i + 1, by omega, Or.inl (by omega), by go_num, HKq.out.drewN _, HN⟩
            case measure => simp [intOf]; omega
        · have t1 : decide ((i : Int) < (T.length : Int)) = false := by simp; omega
          have HF : Hid (ClashTo (mapU rs) U none) := ⟨(fun t h => by cases h), fun _ t ht => by
            refine dup_none HSS.out.1 (fun j hj => HJ.out j ?_) t ((HPS.out t).2 ht)
            rcases hi2 with h | h
            · omega
            · omega⟩
          go_wp2
          go_ret2
          exact ⟨none, rfl, HF.out, HK5.out.then HKq.out⟩
end Go.Proofs.YtmjbaficdoehfaaDoor
