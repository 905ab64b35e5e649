/-
  WALK: slices.Compact at any list of ids of one's own: of equal neighbours the first is left.
-/
import Derived.Test.YtlljiipmkjjhhaaDoorFd6
namespace Go.Proofs.YtlljiipmkjjhhaaDoor
open Go.RowKit Go.Shelf

set_option maxRecDepth 100000 in
set_option maxHeartbeats 4000000 in
theorem Compact_gen {w : World} {g cap : Nat} {M : List (List Int)} (h : IdIn w g cap M) (hl : M.length ≤ 1000000) (h2 : 2 ≤ M.length) :
    Calls Tryd.prog 23 #[.slice (some ⟨g, 0, none⟩) M.length cap] w fun e w' => e = .returned (.slice (some ⟨g, 0, none⟩) (ddL M).length cap) ∧ IdIn w' g cap (ddL M) ∧ Kept [g] w w' := by
  have HI : Hid (∀ W, Kept [] w W → IdIn W g cap M) := fun W k => h.on k
  have HG : Hid (∀ id, id ∈ M → GoodID id) := h.good
  have hcap := h.le
  have hui := Tryd.underlying24
  clear h
  have t1 : decide ((M.length : Int) < 2) = false := decide_eq_false (by omega)
  go_enter Tryd.func23, Tryd.ntmps23
  go_wp2
  go_loopw [3] (fun s3 wr => ∃ k : Nat, 1 ≤ k ∧ k ≤ M.length ∧ s3 = .int .i64 k ∧ Hid (ddL (M.take k) = M.take k) ∧ Hid (Kept [] w wr)) (fun s3 _ => M.length - (intOf s3).toNat)
  case atStart => exact ⟨1, Nat.le_refl _, by omega, rfl, ddL_one (by rw [List.length_take]; omega), Kept.refl _ _⟩
  case round =>
    obtain ⟨k, hk1, hk, rfl, HD, HK⟩ := hrel
    by_cases hlt : k < M.length
    · obtain ⟨p, hp⟩ : ∃ p, k = p + 1 := ⟨k - 1, by omega⟩
      obtain ⟨x, hx⟩ : ∃ x, M[p + 1]? = some x := ⟨_, List.getElem?_eq_getElem (by omega)⟩
      obtain ⟨y, hy⟩ : ∃ y, M[p]? = some y := ⟨_, List.getElem?_eq_getElem (by omega)⟩
      have hgx := HG.out x (List.mem_of_getElem? hx)
      have hgy := HG.out y (List.mem_of_getElem? hy)
      have hso : (Tryd.prog.info? 24).map (·.size) = some (x.map (Value.int .u8)).length := by rw [List.length_map, hgx.1]; exact Tryd.infoID
      have hsy : (Tryd.prog.info? 24).map (·.size) = some (y.map (Value.int .u8)).length := by rw [List.length_map, hgy.1]; exact Tryd.infoID
      have HR1 : Hid (∀ W, Kept [] wr W → W.rangeAt g (k * 32) (x.map (Value.int .u8))) := fun W hW => by
        rw [hp]
        exact (HI.out W (HK.out.then hW)).row _ _ hx
      have HR2 : Hid (∀ W, Kept [] wr W → W.rangeAt g (p * 32) (y.map (Value.int .u8))) := fun W hW => (HI.out W (HK.out.then hW)).row _ _ hy
      have HDT : Hid (ddL (M.take (k + 1)) = if y = x then ddL (M.take k) else ddL (M.take k) ++ [x]) := by rw [hp]; exact ddL_take hx hy
      have HTK : Hid (M.take (k + 1) = M.take k ++ [x]) := by
        show M.take (k + 1) = M.take k ++ [x]
        rw [hp, List.take_add_one, hx]
        rfl
      have hwq : IntKind.i64.wrap ((k : Int) - 1) = (p : Int) := by rw [hp]; simp [IntKind.wrap, IntKind.bits, IntKind.signed]; omega
      have hpl : p < M.length := by omega
      have HKK : Hid (∀ W, Kept [] wr W → Kept [] w W) := fun W hW => HK.out.then hW
      have heq0 := fun W => idEq x y W hgx.1 hgy.1
      clear hx hy hgx hgy hp
      by_cases hne : x = y
      · have heqf : ∀ W, (Op.equalIn 10000 24 (.agg (x.map (Value.int .u8)).toArray) (.agg (y.map (Value.int .u8)).toArray)).run Tryd.prog W = .ok true W := fun W => by
          have h := heq0 W
          rw [decide_eq_true hne] at h
          exact h
        have HD1 : Hid (ddL (M.take (k + 1)) = M.take k) := by
          have h := HDT.out
          rw [if_pos hne.symm, HD.out] at h
          exact h
        clear heq0 hne
        generalize x.map (Value.int .u8) = xr at *
        generalize y.map (Value.int .u8) = yr at *
        go_wp2_with fail
        refine region_quiet (Kept [] wr) (by kernel_rfl) (by kernel_rfl) (Kept.refl [] wr).drew ?_
        with_reducible refine wpQuiet_step ?_
        intro K hK
        rw [if_pos (by go_simp)]
        refine move_at (.tmp 0) rfl (.slice (some ⟨g, 0, none⟩) M.length cap) rfl (hK _ ?_)
        clear hK K
        simp only [Act.put, List.setIfInBounds_toArray, List.set_cons_zero, List.set_cons_succ]
        with_reducible refine wpQuiet_step ?_
        intro K hK
        rw [if_pos (by go_simp)]
        refine move_at (.tmp 3) rfl (.int .i64 k) rfl (hK _ ?_)
        clear hK K
        simp only [Act.put, List.setIfInBounds_toArray, List.set_cons_zero, List.set_cons_succ]
        with_reducible refine wpQuiet_step ?_
        intro K hK
        rw [if_pos (by go_simp)]
        refine val_at (.pointer (some ⟨g, k * 32, none⟩)) (fun W => by go_simp) (hK _ ?_)
        clear hK K
        simp only [Act.put, List.setIfInBounds_toArray, List.set_cons_zero, List.set_cons_succ]
        with_reducible refine wpQuiet_step ?_
        intro K hK
        rw [if_pos (by go_simp)]
        refine row_at 24 (.tmp 18) rfl g (k * 32) rfl xr _ HR1.out hui rfl hso (hK _ ?_)
        clear hK K
        simp only [Act.put, List.setIfInBounds_toArray, List.set_cons_zero, List.set_cons_succ]
        with_reducible refine wpQuiet_step ?_
        intro K hK
        rw [if_pos (by go_simp)]
        refine move_at (.tmp 0) rfl (.slice (some ⟨g, 0, none⟩) M.length cap) rfl (hK _ ?_)
        clear hK K
        simp only [Act.put, List.setIfInBounds_toArray, List.set_cons_zero, List.set_cons_succ]
        with_reducible refine wpQuiet_step ?_
        intro K hK
        rw [if_pos (by go_simp)]
        refine move_at (.tmp 3) rfl (.int .i64 k) rfl (hK _ ?_)
        clear hK K
        simp only [Act.put, List.setIfInBounds_toArray, List.set_cons_zero, List.set_cons_succ]
        with_reducible refine wpQuiet_step ?_
        intro K hK
        rw [if_pos (by go_simp)]
        refine val_at (.int .i64 p) (fun W => by go_simp) (hK _ ?_)
        clear hK K
        simp only [Act.put, List.setIfInBounds_toArray, List.set_cons_zero, List.set_cons_succ]
        with_reducible refine wpQuiet_step ?_
        intro K hK
        rw [if_pos (by go_simp)]
        refine val_at (.pointer (some ⟨g, p * 32, none⟩)) (fun W => by go_simp) (hK _ ?_)
        clear hK K
        simp only [Act.put, List.setIfInBounds_toArray, List.set_cons_zero, List.set_cons_succ]
        with_reducible refine wpQuiet_step ?_
        intro K hK
        rw [if_pos (by go_simp)]
        refine row_at 24 (.tmp 23) rfl g (p * 32) rfl yr _ HR2.out hui rfl hsy (hK _ ?_)
        clear hK K
        simp only [Act.put, List.setIfInBounds_toArray, List.set_cons_zero, List.set_cons_succ]
        with_reducible refine wpQuiet_step ?_
        intro K hK
        rw [if_pos (by go_simp)]
        refine eql_at (.tmp 19) (.tmp 24) _ rfl xr.toArray yr.toArray rfl rfl true heqf (hK _ ?_)
        clear hK K
        simp only [Act.put, List.setIfInBounds_toArray, List.set_cons_zero, List.set_cons_succ]
        refine wpQuiet_nil fun w3 hk3 => ?_
        have HK3 : Hid (Kept [] w w3) := HKK.out w3 hk3
        have hkc : ¬ cap = k := by omega
        have hk2 : (k : Int) ≤ (M.length : Int) := by omega
        clear hk3 HR1 HR2 HKK HDT HTK
        go_wp2_with fail
        go_loopw [3, 5] (fun s3 s5 wr => ∃ q k2 : Nat, s3 = .int .i64 q ∧ s5 = .int .i64 k2 ∧ 1 ≤ k2 ∧ k + k2 ≤ M.length ∧ q + 1 ≤ k + k2 ∧ Hid (∃ A, IdIn wr g cap A ∧ A.length = M.length ∧ A.take q = ddL (M.take (k + k2)) ∧ q = (ddL (M.take (k + k2))).length ∧ ∀ j, k + k2 ≤ j + 1 → A[j]? = M[j]?) ∧ Hid (Kept [g] w wr)) (fun _ s5 _ => M.length - (intOf s5).toNat)
        case atStart =>
          refine ⟨k, 1, rfl, rfl, Nat.le_refl _, by omega, by omega, ⟨M, HI.out w3 HK3.out, rfl, ?_, ?_, fun _ _ => rfl⟩, HK3.out.more (by simp)⟩
          · rw [HD1.out]
          · rw [HD1.out, List.length_take]
            omega
        case round =>
          obtain ⟨q, k2, rfl, rfl, hk21, hkk2, hqk, HA, HKA⟩ := hrel
          obtain ⟨A, hA, hAl, hAt, hAq, hAM⟩ := HA.out
          by_cases hlt2 : k2 < M.length - k
          · obtain ⟨p, hp⟩ : ∃ p, k2 = p + 1 := ⟨k2 - 1, by omega⟩
            obtain ⟨x, hx⟩ : ∃ x, M[k + p + 1]? = some x := ⟨_, List.getElem?_eq_getElem (by omega)⟩
            obtain ⟨y, hy⟩ : ∃ y, M[k + p]? = some y := ⟨_, List.getElem?_eq_getElem (by omega)⟩
            have hgx := HG.out x (List.mem_of_getElem? hx)
            have hgy := HG.out y (List.mem_of_getElem? hy)
            have hso : (Tryd.prog.info? 24).map (·.size) = some (x.map (Value.int .u8)).length := by rw [List.length_map, hgx.1]; exact Tryd.infoID
            have hsy : (Tryd.prog.info? 24).map (·.size) = some (y.map (Value.int .u8)).length := by rw [List.length_map, hgy.1]; exact Tryd.infoID
            have HAX : Hid (A[k + p + 1]? = some x ∧ A[k + p]? = some y) := ⟨by rw [hAM _ (by omega)]; exact hx, by rw [hAM _ (by omega)]; exact hy⟩
            have HR1 : Hid (∀ W, Kept [] wr W → W.rangeAt g (k * 32 + k2 * 32) (x.map (Value.int .u8))) := fun W hW => by
              have h := (hA.on hW).row _ _ HAX.out.1
              rwa [show (k + p + 1) * 32 = k * 32 + k2 * 32 by omega] at h
            have HR2 : Hid (∀ W, Kept [] wr W → W.rangeAt g (k * 32 + p * 32) (y.map (Value.int .u8))) := fun W hW => by
              have h := (hA.on hW).row _ _ HAX.out.2
              rwa [show (k + p) * 32 = k * 32 + p * 32 by omega] at h
            have HDT : Hid (ddL (M.take (k + k2 + 1)) = if y = x then ddL (M.take (k + k2)) else ddL (M.take (k + k2)) ++ [x]) := by
              have h := ddL_take hx hy
              rw [show k + p + 2 = k + k2 + 1 by omega, show k + p + 1 = k + k2 by omega] at h
              exact h
            have hwq2 : IntKind.i64.wrap ((k2 : Int) - 1) = (p : Int) := by rw [hp]; simp [IntKind.wrap, IntKind.bits, IntKind.signed]; omega
            have hpl2 : p < M.length - k := by omega
            have tq2 : decide ((k2 : Int) < ((M.length - k : Nat) : Int)) = true := decide_eq_true (by omega)
            have hqM : q < M.length := by omega
            have HFA : Hid (IdIn wr g cap A ∧ A.length = M.length ∧ A.take q = ddL (M.take (k + k2)) ∧ q = (ddL (M.take (k + k2))).length ∧ ∀ j, k + k2 ≤ j + 1 → A[j]? = M[j]?) := ⟨hA, hAl, hAt, hAq, hAM⟩
            have HXG : Hid (GoodID x) := hgx
            have heq0 := fun W => idEq x y W hgx.1 hgy.1
            clear hx hy hgx hgy hp hA hAl hAt hAq hAM HAX HA
            by_cases hne : x = y
            · have heqf : ∀ W, (Op.equalIn 10000 24 (.agg (x.map (Value.int .u8)).toArray) (.agg (y.map (Value.int .u8)).toArray)).run Tryd.prog W = .ok true W := fun W => by
                have h := heq0 W
                rw [decide_eq_true hne] at h
                exact h
              have HD2 : Hid (ddL (M.take (k + (k2 + 1))) = ddL (M.take (k + k2))) := by
                have h := HDT.out
                rw [if_pos hne.symm] at h
                exact h
              clear heq0 hne
              generalize x.map (Value.int .u8) = xr at *
              generalize y.map (Value.int .u8) = yr at *
              go_wp2_with fail
              refine region_quiet (Kept [] wr) (by kernel_rfl) (by kernel_rfl) (Kept.refl [] wr).drew ?_
              with_reducible refine wpQuiet_step ?_
              intro K hK
              rw [if_pos (by go_simp)]
              refine move_at (.tmp 4) rfl (.slice (some ⟨g, k * 32, none⟩) (M.length - k) (cap - k)) rfl (hK _ ?_)
              clear hK K
              simp only [Act.put, List.setIfInBounds_toArray, List.set_cons_zero, List.set_cons_succ]
              with_reducible refine wpQuiet_step ?_
              intro K hK
              rw [if_pos (by go_simp)]
              refine move_at (.tmp 5) rfl (.int .i64 k2) rfl (hK _ ?_)
              clear hK K
              simp only [Act.put, List.setIfInBounds_toArray, List.set_cons_zero, List.set_cons_succ]
              with_reducible refine wpQuiet_step ?_
              intro K hK
              rw [if_pos (by go_simp)]
              refine val_at (.pointer (some ⟨g, k * 32 + k2 * 32, none⟩)) (fun W => by go_simp) (hK _ ?_)
              clear hK K
              simp only [Act.put, List.setIfInBounds_toArray, List.set_cons_zero, List.set_cons_succ]
              with_reducible refine wpQuiet_step ?_
              intro K hK
              rw [if_pos (by go_simp)]
              refine row_at 24 (.tmp 37) rfl g (k * 32 + k2 * 32) rfl xr _ HR1.out hui rfl hso (hK _ ?_)
              clear hK K
              simp only [Act.put, List.setIfInBounds_toArray, List.set_cons_zero, List.set_cons_succ]
              with_reducible refine wpQuiet_step ?_
              intro K hK
              rw [if_pos (by go_simp)]
              refine move_at (.tmp 4) rfl (.slice (some ⟨g, k * 32, none⟩) (M.length - k) (cap - k)) rfl (hK _ ?_)
              clear hK K
              simp only [Act.put, List.setIfInBounds_toArray, List.set_cons_zero, List.set_cons_succ]
              with_reducible refine wpQuiet_step ?_
              intro K hK
              rw [if_pos (by go_simp)]
              refine move_at (.tmp 5) rfl (.int .i64 k2) rfl (hK _ ?_)
              clear hK K
              simp only [Act.put, List.setIfInBounds_toArray, List.set_cons_zero, List.set_cons_succ]
              with_reducible refine wpQuiet_step ?_
              intro K hK
              rw [if_pos (by go_simp)]
              refine val_at (.int .i64 p) (fun W => by go_simp) (hK _ ?_)
              clear hK K
              simp only [Act.put, List.setIfInBounds_toArray, List.set_cons_zero, List.set_cons_succ]
              with_reducible refine wpQuiet_step ?_
              intro K hK
              rw [if_pos (by go_simp)]
              refine val_at (.pointer (some ⟨g, k * 32 + p * 32, none⟩)) (fun W => by go_simp) (hK _ ?_)
              clear hK K
              simp only [Act.put, List.setIfInBounds_toArray, List.set_cons_zero, List.set_cons_succ]
              with_reducible refine wpQuiet_step ?_
              intro K hK
              rw [if_pos (by go_simp)]
              refine row_at 24 (.tmp 42) rfl g (k * 32 + p * 32) rfl yr _ HR2.out hui rfl hsy (hK _ ?_)
              clear hK K
              simp only [Act.put, List.setIfInBounds_toArray, List.set_cons_zero, List.set_cons_succ]
              with_reducible refine wpQuiet_step ?_
              intro K hK
              rw [if_pos (by go_simp)]
              refine neq_at (.tmp 38) (.tmp 43) _ rfl xr.toArray yr.toArray rfl rfl true heqf (hK _ ?_)
              clear hK K
              simp only [Act.put, List.setIfInBounds_toArray, List.set_cons_zero, List.set_cons_succ]
              refine wpQuiet_nil fun w5 hk5 => ?_
              have HK5 : Hid (Kept [] wr w5) := hk5
              clear hk5 HR1 HR2 HDT
              go_wp2
              go_roundw
              case rel =>
                refine ⟨q, k2 + 1, rfl, by go_num, by omega, by omega, by omega, ⟨A, HFA.out.1.on HK5.out, HFA.out.2.1, ?_, ?_, fun j hj => HFA.out.2.2.2.2 j (by omega)⟩, HKA.out.trans HK5.out (by simp)⟩
                · rw [HD2.out]; exact HFA.out.2.2.1
                · rw [HD2.out]; exact HFA.out.2.2.2.1
              case measure => simp [intOf]; omega
            · have heqf : ∀ W, (Op.equalIn 10000 24 (.agg (x.map (Value.int .u8)).toArray) (.agg (y.map (Value.int .u8)).toArray)).run Tryd.prog W = .ok false W := fun W => by
                have h := heq0 W
                rw [decide_eq_false hne] at h
                exact h
              have HD2 : Hid (ddL (M.take (k + (k2 + 1))) = ddL (M.take (k + k2)) ++ [x]) := by
                have h := HDT.out
                rw [if_neg (fun e => hne e.symm)] at h
                exact h
              obtain ⟨xr, hxr⟩ : ∃ xr, xr = x.map (Value.int .u8) := ⟨_, rfl⟩
              have HXR : Hid (xr = x.map (Value.int .u8)) := hxr
              have hax : xr.toArray.all (·.oneCell') = true := by rw [hxr]; exact all_oneCell_toArray (map_oneCell _)
              have hx32 : xr.toArray.size = 32 := by rw [hxr, List.size_toArray, List.length_map, HXG.out.1]
              rw [← hxr] at heqf hso HR1
              have hsa : (Tryd.prog.info? 24).map (·.size) = some xr.toArray.size := by rw [List.size_toArray]; exact hso
              have HTH : Hid (∀ W, Kept [] wr W → W.there g (q * 32) xr.toArray.size) := fun W hW => by
                rw [hx32]
                refine (HFA.out.1.on hW).there ?_
                omega
              have HR1a : Hid (∀ W, Kept [] wr W → W.rangeAt g (k * 32 + k2 * 32) xr) := HR1.out
              clear heq0 hne hxr
              generalize y.map (Value.int .u8) = yr at *
              go_wp2_with fail
              refine region_quiet (Kept [] wr) (by kernel_rfl) (by kernel_rfl) (Kept.refl [] wr).drew ?_
              with_reducible refine wpQuiet_step ?_
              intro K hK
              rw [if_pos (by go_simp)]
              refine move_at (.tmp 4) rfl (.slice (some ⟨g, k * 32, none⟩) (M.length - k) (cap - k)) rfl (hK _ ?_)
              clear hK K
              simp only [Act.put, List.setIfInBounds_toArray, List.set_cons_zero, List.set_cons_succ]
              with_reducible refine wpQuiet_step ?_
              intro K hK
              rw [if_pos (by go_simp)]
              refine move_at (.tmp 5) rfl (.int .i64 k2) rfl (hK _ ?_)
              clear hK K
              simp only [Act.put, List.setIfInBounds_toArray, List.set_cons_zero, List.set_cons_succ]
              with_reducible refine wpQuiet_step ?_
              intro K hK
              rw [if_pos (by go_simp)]
              refine val_at (.pointer (some ⟨g, k * 32 + k2 * 32, none⟩)) (fun W => by go_simp) (hK _ ?_)
              clear hK K
              simp only [Act.put, List.setIfInBounds_toArray, List.set_cons_zero, List.set_cons_succ]
              with_reducible refine wpQuiet_step ?_
              intro K hK
              rw [if_pos (by go_simp)]
              refine row_at 24 (.tmp 37) rfl g (k * 32 + k2 * 32) rfl xr _ HR1.out hui rfl hso (hK _ ?_)
              clear hK K
              simp only [Act.put, List.setIfInBounds_toArray, List.set_cons_zero, List.set_cons_succ]
              with_reducible refine wpQuiet_step ?_
              intro K hK
              rw [if_pos (by go_simp)]
              refine move_at (.tmp 4) rfl (.slice (some ⟨g, k * 32, none⟩) (M.length - k) (cap - k)) rfl (hK _ ?_)
              clear hK K
              simp only [Act.put, List.setIfInBounds_toArray, List.set_cons_zero, List.set_cons_succ]
              with_reducible refine wpQuiet_step ?_
              intro K hK
              rw [if_pos (by go_simp)]
              refine move_at (.tmp 5) rfl (.int .i64 k2) rfl (hK _ ?_)
              clear hK K
              simp only [Act.put, List.setIfInBounds_toArray, List.set_cons_zero, List.set_cons_succ]
              with_reducible refine wpQuiet_step ?_
              intro K hK
              rw [if_pos (by go_simp)]
              refine val_at (.int .i64 p) (fun W => by go_simp) (hK _ ?_)
              clear hK K
              simp only [Act.put, List.setIfInBounds_toArray, List.set_cons_zero, List.set_cons_succ]
              with_reducible refine wpQuiet_step ?_
              intro K hK
              rw [if_pos (by go_simp)]
              refine val_at (.pointer (some ⟨g, k * 32 + p * 32, none⟩)) (fun W => by go_simp) (hK _ ?_)
              clear hK K
              simp only [Act.put, List.setIfInBounds_toArray, List.set_cons_zero, List.set_cons_succ]
              with_reducible refine wpQuiet_step ?_
              intro K hK
              rw [if_pos (by go_simp)]
              refine row_at 24 (.tmp 42) rfl g (k * 32 + p * 32) rfl yr _ HR2.out hui rfl hsy (hK _ ?_)
              clear hK K
              simp only [Act.put, List.setIfInBounds_toArray, List.set_cons_zero, List.set_cons_succ]
              with_reducible refine wpQuiet_step ?_
              intro K hK
              rw [if_pos (by go_simp)]
              refine neq_at (.tmp 38) (.tmp 43) _ rfl xr.toArray yr.toArray rfl rfl false heqf (hK _ ?_)
              clear hK K
              simp only [Act.put, List.setIfInBounds_toArray, List.set_cons_zero, List.set_cons_succ]
              refine wpQuiet_nil fun w5 hk5 => ?_
              have HK5 : Hid (Kept [] wr w5) := hk5
              have hr5 := HR1a.out w5 hk5
              have hth5 := HTH.out w5 hk5
              have hwq3 : IntKind.i64.wrap ((q : Int) + 1) = ((q + 1 : Nat) : Int) := by simp [IntKind.wrap, IntKind.bits, IntKind.signed]; omega
              clear hk5 HR1 HR2 HDT HTH HR1a
              go_wp2_with (first
                | (refine wpList_load_mid (by rfl) 24 (.tmp 49) (by rfl) g (k * 32 + k2 * 32) (by rfl) xr _ hr5 hui rfl hso ?_)
                | (refine wpList_store_mid (by rfl) 24 (.tmp 51) (.tmp 50) (by rfl) g (q * 32) xr.toArray (by rfl) (by rfl) hth5 hsa hax ?_))
              go_roundw
              case rel =>
                have hI := (HFA.out.1.on HK5.out).set (k := q) (by have := HFA.out.2.1; omega) HXG.out
                rw [← HXR.out] at hI
                refine ⟨q + 1, k2 + 1, by go_num, by go_num, by omega, by omega, by omega, ⟨A.set q x, hI, by rw [List.length_set]; exact HFA.out.2.1, ?_, ?_, fun j hj => ?_⟩, (HKA.out.trans HK5.out (by simp)).setCells g (Or.inl (by simp)) _ _ _⟩
                · rw [HD2.out, ← HFA.out.2.2.1, List.take_add_one, List.getElem?_set_self (by have := HFA.out.2.1; omega), List.take_set_of_le (Nat.le_refl _)]
                  rfl
                · rw [HD2.out, List.length_append, List.length_singleton, ← HFA.out.2.2.2.1]
                · rw [List.getElem?_set_ne (by omega)]
                  exact HFA.out.2.2.2.2 j (by omega)
              case measure => simp [intOf]; omega
          · have tq2 : decide ((k2 : Int) < ((M.length - k : Nat) : Int)) = false := decide_eq_false (by omega)
            have hke : k + k2 = M.length := by omega
            have hqc : ¬ cap = q := by omega
            have hqM : (q : Int) ≤ (M.length : Int) := by omega
            rw [hke, List.take_length] at hAt hAq
            obtain ⟨vs, hclr⟩ : ∃ vs : List Value, ∀ ty, (Builtin.clear_ #[22] ty #[.slice (some ⟨g, q * 32, none⟩) (M.length - q) (cap - q)]).run Tryd.prog wr = .ok (.tuple #[]) (wr.setCells g (q * 32) vs) := by
              obtain ⟨vs, h⟩ := run_clear_ids wr 0 g (q * 32) (M.length - q) (cap - q) (by omega) (hA.there (by
                have h1 : (M.length - q) * 32 = M.length * 32 - q * 32 := Nat.sub_mul _ _ _
                have h2 : M.length * 32 ≤ cap * 32 := Nat.mul_le_mul_right _ hcap
                have h3 : q * 32 ≤ M.length * 32 := Nat.mul_le_mul_right _ (by omega)
                omega))
              exact ⟨vs, fun _ => h⟩
            have HEND : Hid (IdIn (wr.setCells g (q * 32) vs) g cap (ddL M) ∧ Kept [g] w (wr.setCells g (q * 32) vs) ∧ q = (ddL M).length) := by
              have h := hA.behind (n := q) (by omega) vs
              rw [hAt] at h
              exact ⟨h, HKA.out.setCells g (Or.inl (by simp)) _ _ _, hAq⟩
            clear hA hAl hAt hAq hAM HA hke
            go_wp2
            go_ret
            rw [← HEND.out.2.2]
            exact ⟨rfl, HEND.out.1, HEND.out.2.1⟩
      · have heqf : ∀ W, (Op.equalIn 10000 24 (.agg (x.map (Value.int .u8)).toArray) (.agg (y.map (Value.int .u8)).toArray)).run Tryd.prog W = .ok false W := fun W => by
          have h := heq0 W
          rw [decide_eq_false hne] at h
          exact h
        have HD1 : Hid (ddL (M.take (k + 1)) = M.take (k + 1)) := by
          have h := HDT.out
          rw [if_neg (fun e => hne e.symm), HD.out, ← HTK.out] at h
          exact h
        clear heq0 hne
        generalize x.map (Value.int .u8) = xr at *
        generalize y.map (Value.int .u8) = yr at *
        go_wp2_with fail
        refine region_quiet (Kept [] wr) (by kernel_rfl) (by kernel_rfl) (Kept.refl [] wr).drew ?_
        with_reducible refine wpQuiet_step ?_
        intro K hK
        rw [if_pos (by go_simp)]
        refine move_at (.tmp 0) rfl (.slice (some ⟨g, 0, none⟩) M.length cap) rfl (hK _ ?_)
        clear hK K
        simp only [Act.put, List.setIfInBounds_toArray, List.set_cons_zero, List.set_cons_succ]
        with_reducible refine wpQuiet_step ?_
        intro K hK
        rw [if_pos (by go_simp)]
        refine move_at (.tmp 3) rfl (.int .i64 k) rfl (hK _ ?_)
        clear hK K
        simp only [Act.put, List.setIfInBounds_toArray, List.set_cons_zero, List.set_cons_succ]
        with_reducible refine wpQuiet_step ?_
        intro K hK
        rw [if_pos (by go_simp)]
        refine val_at (.pointer (some ⟨g, k * 32, none⟩)) (fun W => by go_simp) (hK _ ?_)
        clear hK K
        simp only [Act.put, List.setIfInBounds_toArray, List.set_cons_zero, List.set_cons_succ]
        with_reducible refine wpQuiet_step ?_
        intro K hK
        rw [if_pos (by go_simp)]
        refine row_at 24 (.tmp 18) rfl g (k * 32) rfl xr _ HR1.out hui rfl hso (hK _ ?_)
        clear hK K
        simp only [Act.put, List.setIfInBounds_toArray, List.set_cons_zero, List.set_cons_succ]
        with_reducible refine wpQuiet_step ?_
        intro K hK
        rw [if_pos (by go_simp)]
        refine move_at (.tmp 0) rfl (.slice (some ⟨g, 0, none⟩) M.length cap) rfl (hK _ ?_)
        clear hK K
        simp only [Act.put, List.setIfInBounds_toArray, List.set_cons_zero, List.set_cons_succ]
        with_reducible refine wpQuiet_step ?_
        intro K hK
        rw [if_pos (by go_simp)]
        refine move_at (.tmp 3) rfl (.int .i64 k) rfl (hK _ ?_)
        clear hK K
        simp only [Act.put, List.setIfInBounds_toArray, List.set_cons_zero, List.set_cons_succ]
        with_reducible refine wpQuiet_step ?_
        intro K hK
        rw [if_pos (by go_simp)]
        refine val_at (.int .i64 p) (fun W => by go_simp) (hK _ ?_)
        clear hK K
        simp only [Act.put, List.setIfInBounds_toArray, List.set_cons_zero, List.set_cons_succ]
        with_reducible refine wpQuiet_step ?_
        intro K hK
        rw [if_pos (by go_simp)]
        refine val_at (.pointer (some ⟨g, p * 32, none⟩)) (fun W => by go_simp) (hK _ ?_)
        clear hK K
        simp only [Act.put, List.setIfInBounds_toArray, List.set_cons_zero, List.set_cons_succ]
        with_reducible refine wpQuiet_step ?_
        intro K hK
        rw [if_pos (by go_simp)]
        refine row_at 24 (.tmp 23) rfl g (p * 32) rfl yr _ HR2.out hui rfl hsy (hK _ ?_)
        clear hK K
        simp only [Act.put, List.setIfInBounds_toArray, List.set_cons_zero, List.set_cons_succ]
        with_reducible refine wpQuiet_step ?_
        intro K hK
        rw [if_pos (by go_simp)]
        refine eql_at (.tmp 19) (.tmp 24) _ rfl xr.toArray yr.toArray rfl rfl false heqf (hK _ ?_)
        clear hK K
        simp only [Act.put, List.setIfInBounds_toArray, List.set_cons_zero, List.set_cons_succ]
        refine wpQuiet_nil fun w3 hk3 => ?_
        have HK3 : Hid (Kept [] w w3) := HKK.out w3 hk3
        clear hk3 HR1 HR2 HKK
        go_wp2
        go_roundw
        case rel => exact ⟨k + 1, by omega, by omega, by go_num, HD1, HK3⟩
        case measure => simp [intOf]; omega
    · have tE : decide ((k : Int) < (M.length : Int)) = false := decide_eq_false (by omega)
      have tE2 : ¬ k < M.length := hlt
      have hkk : k = M.length := by omega
      have HDM : Hid (ddL M = M) := by
        have h := HD.out
        rw [hkk, List.take_length] at h
        exact h
      clear hkk
      go_wp2
      go_ret
      rw [HDM.out]
      exact ⟨rfl, HI.out wr HK.out, HK.out.more (by simp)⟩
end Go.Proofs.YtlljiipmkjjhhaaDoor
