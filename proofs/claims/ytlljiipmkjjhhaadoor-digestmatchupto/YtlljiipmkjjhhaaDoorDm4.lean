/-
  PLAIN: the digits of an id begin so just if they are those that the beginning stands for.
  WALK: satchelref2.Match.
-/
import Derived.Test.YtlljiipmkjjhhaaDoorFd6
import Derived.Test.YtlljiipmkjjhhaaDoorShort5
import Derived.Test.YtlljiipmkjjhhaaDoorDm2
namespace Go.Proofs.YtlljiipmkjjhhaaDoor
open Go.RowKit

theorem half_begD (p : List Int) (k j : Nat) (hj : j < 64) : halfL (begL p k) j = vAt p k j := by
  have h1 := vAt_fits p k (2 * (j / 2))
  have h2 := vAt_fits p k (2 * (j / 2) + 1)
  have hg := begL_get p k (j / 2) (by omega)
  unfold halfL
  rw [hg]
  by_cases hp : j % 2 = 0
  · rw [if_pos hp, show j = 2 * (j / 2) by omega]
    rw [show 2 * (j / 2) / 2 = j / 2 by omega]
    omega
  · rw [if_neg hp]
    have e : j = 2 * (j / 2) + 1 := by omega
    rw [show vAt p k j = vAt p k (2 * (j / 2) + 1) by rw [← e]]
    omega
theorem digit_val (c : Int) (h : isDigit c) : digitL (valL c) = c := by
  unfold digitL valL
  rcases h with h | h
  · rw [if_pos h]
    split <;> omega
  · rw [if_neg (by omega), if_pos h]
    split <;> omega
/-- Digits are the beginning of what they begin. -/
theorem hex_begL (p : List Int) (h64 : p.length ≤ 64) (hd : ∀ c, c ∈ p → isDigit c) : (hexL (begL p p.length)).take p.length = p := by
  apply List.ext_getElem?
  intro j
  by_cases hj : j < p.length
  · have hx := hexL_get (begL p p.length) j (by omega)
    have hl : j < (hexL (begL p p.length)).length := by rw [hexL_len]; omega
    rw [half_begD _ _ _ (by omega)] at hx
    unfold vAt at hx
    rw [if_pos hj, List.getElem?_eq_getElem hj, List.getElem?_eq_getElem hl, Option.getD_some, Option.getD_some, digit_val _ (hd _ (List.getElem_mem hj))] at hx
    rw [List.getElem?_take_of_lt hj, List.getElem?_eq_getElem hj, List.getElem?_eq_getElem hl, hx]
  · rw [List.getElem?_eq_none (by rw [List.length_take]; omega), List.getElem?_eq_none (by omega)]
theorem begB_hit (o p : List Int) (ho : Octs o) (h64 : p.length ≤ 64) (hd : ∀ c, c ∈ p → isDigit c) : begB (hexL o) p = hitL p o := by
  have h := begB_com o (begL p p.length) ho (begL_octs p _) p.length h64
  rw [hex_begL p h64 hd] at h
  exact h
end Go.Proofs.YtlljiipmkjjhhaaDoor

namespace Go.Proofs.YtlljiipmkjjhhaaDoor
open Go.RowKit

/-- The beginning is one. -/
def OkB (p : List Int) : Prop := 4 ≤ p.length ∧ p.length ≤ 64 ∧ ∀ c, c ∈ p → isDigit c
instance (p : List Int) : Decidable (OkB p) := inferInstanceAs (Decidable (_ ∧ _))
set_option maxRecDepth 100000 in
set_option maxHeartbeats 4000000 in
theorem RMatch_any (v : Value) (ids : List (List Int)) (p : List Int) (w : World) (hv : IdsAt w v ids) (hg : ∀ o, o ∈ ids → GoodID o) (hl : ids.length ≤ 100000) (hp : Octs p) (hpl : p.length ≤ 1000000000) :
    Calls Tryd.prog 31 #[v, .string (strOfNums p)] w fun e w' => Kept [] w w' ∧ (OkB p → ∃ v' M, e = .returned (.tuple #[v', .int .i64 0]) ∧ SortedIds M ∧ (∀ id, id ∈ M ↔ id ∈ ids.filter (hitL p)) ∧ IdsAt w' v' M) ∧ (¬ OkB p → e = .returned (.tuple #[.slice none 0 0, .int .i64 20])) := by
  have HV : Hid (∀ W, Kept [] w W → IdsAt W v ids) := fun W k => hv.onK k
  have HG : Hid (∀ o, o ∈ ids → GoodID o) := hg
  obtain ⟨ao, cap, rfl, hcap, _, hlen, _⟩ := hv
  have hish := IsHex_any p hp hpl w
  by_cases hd : OkB p
  · have HD : Hid (OkB p) := hd
    rw [decide_eq_true (show 4 ≤ p.length ∧ p.length ≤ 64 ∧ ∀ c, c ∈ p → isDigit c from hd)] at hish
    have HRB : Hid (∀ W o, GoodID o → Calls Tryd.prog 56 #[.agg (idC o), .string (strOfNums p)] W fun e w' => e = .returned (.bool (hitL p o)) ∧ Kept [] W w') := fun W o ho => by
      have h := RBegins_any o p W ho hp
      rw [begB_hit o p ho.2 hd.2.1 hd.2.2] at h
      exact h
    clear hg hd
    generalize strOfNums p = S at *
    go_enter Tryd.func31, Tryd.ntmps31
    go_wp2_with (first
      | (go_at_call 55; refine hish.mono ?_; rintro e w1 ⟨rfl, hk1⟩
         have HK1 : Hid (Kept [] w w1) := hk1
         clear hk1))
    go_loopw [6, 7] (fun s6 s7 wr => ∃ k : Nat, k ≤ ids.length ∧ s7 = .int .i64 k ∧ Hid (IdOwn wr w.heap.size s6 ((ids.take k).filter (hitL p))) ∧ Hid (Kept [] w wr)) (fun _ s7 _ => ids.length - (intOf s7).toNat)
    case atStart => exact ⟨0, Nat.zero_le _, rfl, ⟨rfl, Or.inl ⟨rfl, rfl⟩⟩, HK1⟩
    case round =>
      obtain ⟨k, hk, rfl, HO, HK⟩ := hrel
      by_cases hlt : k < ids.length
      · obtain ⟨o, ho⟩ : ∃ o, ids[k]? = some o := ⟨_, List.getElem?_eq_getElem hlt⟩
        have hgo := HG.out o (List.mem_of_getElem? ho)
        obtain ⟨ao', cap', he, _, _, _, hc⟩ := HV.out wr HK.out
        injection he with e1 e2 e3
        subst e1 e3
        obtain ⟨b, off, rfl, hh⟩ := hc (by rintro rfl; simp at hlt)
        have hr := hh k o ho
        have hui := Tryd.underlying24
        have HFS : Hid _ := filter_succ (hitL p) ids k o ho
        obtain ⟨Fk, hFk⟩ : ∃ Fk, Fk = (ids.take k).filter (hitL p) := ⟨_, rfl⟩
        have hFl : Fk.length ≤ 100000 := by
          rw [hFk]
          have h1 := List.length_filter_le (hitL p) (ids.take k)
          rw [List.length_take] at h1
          omega
        rw [← hFk] at HO HFS
        have hoc : (o.map (Value.int .u8)).toArray = idC o := rfl
        have hcb := HRB.out wr o hgo
        rw [← hoc] at hcb
        obtain ⟨X, hX⟩ : ∃ X, X = o.map (Value.int .u8) := ⟨_, rfl⟩
        have HX : Hid (X = o.map (Value.int .u8)) := hX
        have hXl : X.length = 32 := by rw [hX, List.length_map]; exact hgo.1
        have hX1 : ∀ v, v ∈ X → v.oneCell' = true := by rw [hX]; exact map_oneCell _
        have hsX : (Tryd.prog.info? 24).map (·.size) = some X.length := by rw [hXl]; exact Tryd.infoID
        rw [← hX] at hr hcb
        have HR : Hid (∀ W, Kept [] wr W → W.rangeAt b (off + k * 32) X) := fun W hW => range_kept hr hW (by simp)
        have hbw : w.heap.size ≤ wr.heap.size := HK.out.size
        clear hh hc ho hFk hgo hoc hX
        obtain ⟨hit, hhit⟩ : ∃ hit, hit = hitL p o := ⟨_, rfl⟩
        have HH : Hid (hit = hitL p o) := hhit
        rw [← hhit] at hcb
        clear hhit
        cases hit
        · have HF2 : Hid ((ids.take (k + 1)).filter (hitL p) = Fk) := by
            have h := HFS.out
            rw [← HH.out] at h
            rw [if_neg (by decide), List.append_nil] at h
            exact h
          go_wp2_with (first
            | (refine wpList_load_mid (by rfl) 24 (.tmp 19) (by rfl) b (off + k * 32) (by rfl) X _ hr hui rfl hsX ?_)
            | (go_at_call 56; refine hcb.mono ?_; rintro e w2 ⟨rfl, hk2⟩
               have HK2 : Hid (Kept [] wr w2) := hk2
               clear hk2))
          go_roundw
          case rel => exact ⟨k + 1, by omega, by go_num, by rw [HF2.out]; exact ownsK_on HO.out HK2.out (fun _ _ => by simp), HK.out.then HK2.out⟩
          case measure => simp [intOf]; omega
        · have HF2 : Hid ((ids.take (k + 1)).filter (hitL p) = Fk ++ [o]) := by
            have h := HFS.out
            rw [← HH.out] at h
            rw [if_pos rfl] at h
            exact h
          go_wp2_with (first
            | (refine wpList_load_mid (by rfl) 24 (.tmp 19) (by rfl) b (off + k * 32) (by rfl) X _ hr hui rfl hsX ?_)
            | (go_at_call 56; refine hcb.mono ?_; rintro e w2 ⟨rfl, hk2⟩
               have HK2 : Hid (Kept [] wr w2) := hk2
               have hr2 := HR.out w2 hk2
               have HO2 : Hid (IdOwn w2 w.heap.size u6 Fk) := ownsK_on HO.out hk2 (fun _ _ => by simp)
               clear hk2)
            | (refine wpList_load_mid (by rfl) 24 (.tmp 26) (by rfl) b (off + k * 32) (by rfl) X _ hr2 hui rfl hsX ?_)
            | (refine wpList_build_k (by rfl) Tryd.underlying22 Tryd.idInfo (by decide) (by decide) (.tmp 27) (by rfl) X (by rfl) hXl ?_)
            | (at_builtin; refine wpList_append_rows rfl (.tmp 23) (.tmp 28) 22 24 _ 32 32 Tryd.underlying22 Tryd.idInfo Tryd.idZero (by decide) rfl (B := w.heap.size) (v := u6) (n := Fk.length) (xs := (Fk.map (fun (id : List Int) => id.map (Value.int .u8))).flatten) rfl (ownsK_on HO2.out ((Kept.refl [] w2).alloc _) (fun _ _ => by simp)) (rows := [X]) rfl (row_at_new _ _ _ _) (by rintro y hy; rw [List.mem_singleton.1 hy]; exact hXl) (by rintro y hy; rw [List.mem_singleton.1 hy]; exact hX1) (by simp; omega) (by decide) (Nat.le_trans (HK.out.then HK2.out).size (by simp)) ?_
               intro v6 w6 own6 k6
               rw [HX.out] at own6
               have HO6 : Hid (IdOwn w6 w.heap.size v6 (Fk ++ [o])) := IdOwn.push1 own6
               have HK6 : Hid (Kept [] w w6) := ((HK.out.then HK2.out).alloc _).trans k6 (fun y hy => Or.inr (HO2.out.above y (by simpa using hy)))
               clear own6 k6))
          go_roundw
          case rel => exact ⟨k + 1, by omega, by go_num, by rw [HF2.out]; exact HO6, HK6⟩
          case measure => simp [intOf]; omega
      · obtain rfl : k = ids.length := by omega
        rw [List.take_length] at HO
        have hgF : ∀ id, id ∈ ids.filter (hitL p) → GoodID id := fun id h => HG.out id (List.mem_filter.1 h).1
        have hlF : (ids.filter (hitL p)).length ≤ 400000 := Nat.le_trans (List.length_filter_le _ _) (by omega)
        have hsort := SortIDs_any _ u6 (ids.filter (hitL p)) wr (Nat.le_refl _) (IdOwn.at HO.out hgF (by omega)) hgF hlF
        clear hgF hlF
        go_wp2_with (first
          | (go_at_call 57; refine hsort.mono ?_; rintro e w2 ⟨v2, M, rfl, h1, h2, _, h3, hk2⟩
             have HF : Hid (SortedIds M ∧ (∀ x, x ∈ M ↔ x ∈ ids.filter (hitL p)) ∧ IdsAt w2 v2 M ∧ Kept [] w w2) := ⟨h1, h2, h3, HK.out.then hk2⟩
             clear h1 h2 h3 hk2))
        refine bodyPost_ret (v := .tuple #[v2, .int .i64 0]) (by simp [results, Tryd.results31, go_sem]) rfl ?_
        exact ⟨HF.out.2.2.2, fun _ => ⟨v2, M, rfl, HF.out.1, HF.out.2.1, HF.out.2.2.1⟩, fun h => absurd HD.out h⟩
  · have HD : Hid (¬ OkB p) := hd
    rw [decide_eq_false (show ¬ (4 ≤ p.length ∧ p.length ≤ 64 ∧ ∀ c, c ∈ p → isDigit c) from hd)] at hish
    clear hd
    generalize strOfNums p = S at *
    go_enter Tryd.func31, Tryd.ntmps31
    go_wp2_with (first
      | (go_at_call 55; refine hish.mono ?_; rintro e w1 ⟨rfl, hk1⟩
         have HK1 : Hid (Kept [] w w1) := hk1
         clear hk1))
    refine bodyPost_ret (v := .tuple #[.slice none 0 0, .int .i64 20]) (by simp [results, Tryd.results31, go_sem]) rfl ?_
    exact ⟨HK1.out, fun h => absurd h HD.out, fun _ => rfl⟩
end Go.Proofs.YtlljiipmkjjhhaaDoor
