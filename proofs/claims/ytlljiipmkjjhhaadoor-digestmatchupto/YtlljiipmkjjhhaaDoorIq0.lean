/-
  WALK: satchelref0.EqIDs, of two lists that tell the same; what two stores of the same ids tell.
-/
import Derived.Test.YtlljiipmkjjhhaaDoorAppR
import Derived.Test.YtlljiipmkjjhhaaDoorHex1
namespace Go.Proofs.YtlljiipmkjjhhaaDoor
open Go.RowKit

theorem IdOwn.at {w : World} {B : Nat} {v : Value} {ids : List (List Int)} (h : IdOwn w B v ids) (hg : ∀ id, id ∈ ids → GoodID id) (hn : ids.length ≤ 140737488351232) : IdsAt w v ids := by
  refine IdsAt.rows.2 (ownsK_rows (B := B) (e := 24) (by decide) (fun r hr => ?_) ?_ (by rw [List.length_map]; exact hn))
  · obtain ⟨id, hid, rfl⟩ := List.mem_map.1 hr
    rw [List.length_map]
    exact (hg id hid).1
  · rw [List.length_map]
    exact h
theorem IdsAt.onK {w w' : World} {v : Value} {ids : List (List Int)} (h : IdsAt w v ids) (k : Kept [] w w') : IdsAt w' v ids := h.keep k (fun _ _ _ => by simp)
/-- Two sorted lists of the same ids are one. -/
theorem sorted_uniq : ∀ {L M : List (List Int)}, SortedIds L → SortedIds M → (∀ x, x ∈ L ↔ x ∈ M) → L = M
  | [], [], _, _, _ => rfl
  | [], y :: M, _, _, h => absurd ((h y).2 (by simp)) (by simp)
  | x :: L, [], _, _, h => absurd ((h x).1 (by simp)) (by simp)
  | x :: L, y :: M, hL, hM, h => by
    have hL' := List.pairwise_cons.1 hL
    have hM' := List.pairwise_cons.1 hM
    have e : x = y := by
      rcases List.mem_cons.1 ((h x).1 (by simp)) with e | hx
      · exact e
      · rcases List.mem_cons.1 ((h y).2 (by simp)) with e | hy
        · exact e.symm
        · have h1 := hM'.1 x hx
          have h2 := hL'.1 y hy
          have h3 := cmpB_trans _ _ _ h1 h2
          exact absurd h3 (cmpB_self y)
    subst e
    have t : L = M := sorted_uniq hL'.2 hM'.2 (fun z => by
      have hz := h z
      constructor
      · intro hzl
        rcases List.mem_cons.1 (hz.1 (List.mem_cons_of_mem _ hzl)) with e | q
        · subst e
          exact absurd (hL'.1 _ hzl) (cmpB_self _)
        · exact q
      · intro hzm
        rcases List.mem_cons.1 (hz.2 (List.mem_cons_of_mem _ hzm)) with e | q
        · subst e
          exact absurd (hM'.1 _ hzm) (cmpB_self _)
        · exact q)
    rw [t]
theorem IdsOf.uniq {D D2 : DataW Unit} {L M : List (List Int)} (h : IdsOf D L) (h2 : IdsOf D2 M) (e : ∀ kl, Maps.has D2 kl = Maps.has D kl) : L = M :=
  sorted_uniq h.sorted h2.sorted (fun x => by
    constructor
    · intro hx
      have := (h.mem x hx).2
      rw [← e] at this
      obtain ⟨y, hy, ey⟩ := h2.all _ this
      rw [idKey_inj (h.mem x hx).1 (h2.mem y hy).1 ey]
      exact hy
    · intro hx
      have := (h2.mem x hx).2
      rw [e] at this
      obtain ⟨y, hy, ey⟩ := h.all _ this
      rw [idKey_inj (h2.mem x hx).1 (h.mem y hy).1 ey]
      exact hy)
set_option maxRecDepth 100000 in
set_option maxHeartbeats 2000000 in
theorem EqIDs_same (v1 v2 : Value) (ks : List (List Int)) (w : World) (h1 : IdsAt w v1 ks) (h2 : IdsAt w v2 ks) (hg : ∀ k, k ∈ ks → k.length = 32) :
    Calls Tryd.prog 14 #[v1, v2] w fun e w' => e = .returned (.bool true) ∧ Kept [] w w' := by
  have HN1 : Hid (∀ W, Kept [] w W → IdsAt W v1 ks) := fun W k => h1.onK k
  have HN2 : Hid (∀ W, Kept [] w W → IdsAt W v2 ks) := fun W k => h2.onK k
  have HG : Hid (∀ k, k ∈ ks → k.length = 32) := hg
  obtain ⟨a1, c1, rfl, hc1, _, hl1, _⟩ := h1
  obtain ⟨a2, c2, rfl, hc2, _, hl2, _⟩ := h2
  have hue := Tryd.underlying24
  clear hg
  go_enter Tryd.func14, Tryd.ntmps14
  go_wp2
  go_loopw [5] (fun s5 wr => ∃ k : Nat, k ≤ ks.length ∧ s5 = .int .i64 k ∧ Hid (Kept [] w wr)) (fun s5 _ => ks.length - (intOf s5).toNat)
  case atStart => exact ⟨0, Nat.zero_le _, rfl, Kept.refl _ _⟩
  case round =>
    obtain ⟨k, hk, rfl, HK⟩ := hrel
    by_cases hlt : k < ks.length
    · obtain ⟨x, hx⟩ : ∃ x, ks[k]? = some x := ⟨_, List.getElem?_eq_getElem hlt⟩
      have hgx := HG.out x (List.mem_of_getElem? hx)
      obtain ⟨ao', cap', he, _, _, _, hc⟩ := HN1.out wr HK.out
      injection he with e1 e2 e3
      subst e1 e3
      obtain ⟨b1', off1, rfl, hh1⟩ := hc (by intro e; rw [e] at hlt; simp at hlt)
      obtain ⟨ao', cap', he, _, _, _, hc⟩ := HN2.out wr HK.out
      injection he with e1 e2 e3
      subst e1 e3
      obtain ⟨b2', off2, rfl, hh2⟩ := hc (by intro e; rw [e] at hlt; simp at hlt)
      have hso : (Tryd.prog.info? 24).map (·.size) = some (x.map (Value.int .u8)).length := by rw [List.length_map, hgx]; exact Tryd.infoID
      have heqf : ∀ W, (Op.equalIn 10000 24 (.agg (x.map (Value.int .u8)).toArray) (.agg (x.map (Value.int .u8)).toArray)).run Tryd.prog W = .ok true W := fun W => by
        have h := idEq x x W hgx hgx
        rw [decide_eq_true rfl] at h
        exact h
      have HR1 : Hid (∀ W, Kept [] wr W → W.rangeAt b1' (off1 + k * 32) (x.map (Value.int .u8))) := fun W hW => range_kept (hh1 k x hx) hW (by simp)
      have HR2 : Hid (∀ W, Kept [] wr W → W.rangeAt b2' (off2 + k * 32) (x.map (Value.int .u8))) := fun W hW => range_kept (hh2 k x hx) hW (by simp)
      have HKK : Hid (∀ W, Kept [] wr W → Kept [] w W) := fun W hW => HK.out.then hW
      clear hh1 hh2 hc hx hgx
      generalize x.map (Value.int .u8) = xr at *
      go_wp2_with fail
      refine region_quiet (Kept [] wr) (by kernel_rfl) (by kernel_rfl) (Kept.refl [] wr).drew ?_
      refine quiet_move (by rfl) (.tmp 0) rfl (.slice (some ⟨b1', off1, none⟩) ks.length c1) rfl ?_
      simp only [Act.put, List.setIfInBounds_toArray, List.set_cons_zero, List.set_cons_succ]
      refine quiet_move (by rfl) (.tmp 5) rfl (.int .i64 k) rfl ?_
      simp only [Act.put, List.setIfInBounds_toArray, List.set_cons_zero, List.set_cons_succ]
      refine quiet_val (by rfl) (.pointer (some ⟨b1', off1 + k * 32, none⟩)) (fun W => by go_simp) ?_
      simp only [Act.put, List.setIfInBounds_toArray, List.set_cons_zero, List.set_cons_succ]
      refine quiet_row (by rfl) _ _ rfl b1' (off1 + k * 32) rfl xr _ HR1.out hue rfl hso ?_
      simp only [Act.put, List.setIfInBounds_toArray, List.set_cons_zero, List.set_cons_succ]
      refine quiet_move (by rfl) (.tmp 1) rfl (.slice (some ⟨b2', off2, none⟩) ks.length c2) rfl ?_
      simp only [Act.put, List.setIfInBounds_toArray, List.set_cons_zero, List.set_cons_succ]
      refine quiet_move (by rfl) (.tmp 5) rfl (.int .i64 k) rfl ?_
      simp only [Act.put, List.setIfInBounds_toArray, List.set_cons_zero, List.set_cons_succ]
      refine quiet_val (by rfl) (.pointer (some ⟨b2', off2 + k * 32, none⟩)) (fun W => by go_simp) ?_
      simp only [Act.put, List.setIfInBounds_toArray, List.set_cons_zero, List.set_cons_succ]
      refine quiet_row (by rfl) _ _ rfl b2' (off2 + k * 32) rfl xr _ HR2.out hue rfl hso ?_
      simp only [Act.put, List.setIfInBounds_toArray, List.set_cons_zero, List.set_cons_succ]
      refine quiet_neq (by rfl) (.tmp 20) (.tmp 24) _ rfl _ _ rfl rfl true heqf ?_
      simp only [Act.put, List.setIfInBounds_toArray, List.set_cons_zero, List.set_cons_succ]
      refine wpQuiet_nil fun w3 hk3 => ?_
      have HK3 : Hid (Kept [] w w3) := HKK.out w3 hk3
      clear hk3 HR1 HR2 HKK
      go_wp2
      go_roundw
      case rel => exact ⟨k + 1, by omega, by go_num, HK3⟩
      case measure => simp [intOf]; omega
    · have tE : decide ((k : Int) < (ks.length : Int)) = false := decide_eq_false (by omega)
      have tE2 : ¬ k < ks.length := hlt
      go_wp2
      go_ret
      exact ⟨rfl, HK.out⟩
end Go.Proofs.YtlljiipmkjjhhaaDoor
