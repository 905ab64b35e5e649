/-
  WALK: satchellaw2.matchPlaced; what Match answers, in one form for both.
-/
import Derived.Test.YtlljiipmkjjhhaaDoorDm4
import Derived.Test.YtlljiipmkjjhhaaDoorBi4
import Derived.Test.YtlljiipmkjjhhaaDoorSha9
import Derived.Test.YtlljiipmkjjhhaaDoorFd9
namespace Go.Proofs.YtlljiipmkjjhhaaDoor
open Go.RowKit

theorem num2D (n : Int) (w : World) : Calls Tryd.prog 9 #[.int .i64 n] w fun e w' => e = .returned (.int .i64 n) ∧ w' = w := by
  go_enter Tryd.func9, Tryd.ntmps9
  go_wp2
  go_ret
  exact ⟨rfl, rfl⟩
/-- What is told of a list and a beginning. -/
def MQ (ids : List (List Int)) (p : List Int) (M : List (List Int)) (ec : Int) : Prop := (OkB p ∧ ec = 0 ∧ SortedIds M ∧ ∀ id, id ∈ M ↔ id ∈ ids.filter (hitL p)) ∨ (¬ OkB p ∧ ec = 20 ∧ M = [])
theorem MQ.uniq {ids : List (List Int)} {p : List Int} {M1 M2 : List (List Int)} {e1 e2 : Int} (h1 : MQ ids p M1 e1) (h2 : MQ ids p M2 e2) : M1 = M2 ∧ e1 = e2 := by
  rcases h1 with ⟨a1, rfl, a2, a3⟩ | ⟨a1, rfl, rfl⟩
  · rcases h2 with ⟨b1, rfl, b2, b3⟩ | ⟨b1, rfl, rfl⟩
    · exact ⟨sorted_uniq a2 b2 fun x => by rw [a3, b3], rfl⟩
    · exact absurd a1 b1
  · rcases h2 with ⟨b1, rfl, b2, b3⟩ | ⟨b1, rfl, rfl⟩
    · exact absurd b1 a1
    · exact ⟨rfl, rfl⟩
theorem MQ.good {ids : List (List Int)} {p : List Int} {M : List (List Int)} {e : Int} (h : MQ ids p M e) (hg : ∀ o, o ∈ ids → GoodID o) : ∀ o, o ∈ M → GoodID o := by
  rcases h with ⟨_, _, _, a3⟩ | ⟨_, _, rfl⟩
  · exact fun o ho => hg o (List.mem_filter.1 ((a3 o).1 ho)).1
  · exact fun o ho => by cases ho
theorem idsAt_nil (w : World) : IdsAt w (.slice none 0 0) [] := ⟨none, 0, rfl, Nat.le_refl _, fun _ => rfl, by simp, fun h => absurd rfl h⟩
/-- What digest.Match answers. -/
def MatchD (w : World) (ids : List (List Int)) (p : List Int) (e : Ending) (w' : World) : Prop := ∃ v M ec, e = .returned (.tuple #[v, .int .i64 ec]) ∧ MQ ids p M ec ∧ Kept [] w w' ∧ IdsAt w' v M ∧ ListI w' w.heap.size v M
theorem MatchD_any (v : Value) (ids : List (List Int)) (p : List Int) (w : World) (hv : IdsAt w v ids) (hg : ∀ o, o ∈ ids → GoodID o) (hl : ids.length ≤ 100000) (hp : Octs p) (hpl : p.length ≤ 1000000000) :
    Calls Tryd.prog 5 #[v, .string (strOfNums p)] w (MatchD w ids p) := by
  refine (Match_gen v ids p w hv hg hl hp hpl).mono fun e w' h => ?_
  by_cases hd : OkB p
  · obtain ⟨v', M, rfl, h1, h2, h3, h4, h5⟩ := h.good hd
    refine ⟨v', M, 0, rfl, Or.inl ⟨hd, rfl, h1, h2⟩, h.kept, h3, ?_⟩
    by_cases hm : M = []
    · exact Or.inl ⟨h4 hm, hm⟩
    · obtain ⟨g, cap, h6, h7, h8⟩ := h5 hm
      exact Or.inr ⟨g, cap, h6, h7, h8⟩
  · obtain ⟨v', rfl, rfl⟩ := h.bad hd
    exact ⟨_, [], 20, rfl, Or.inr ⟨hd, rfl, rfl⟩, h.kept, idsAt_nil _, Or.inl ⟨rfl, rfl⟩⟩
theorem RMatchD_any (v : Value) (ids : List (List Int)) (p : List Int) (w : World) (hv : IdsAt w v ids) (hg : ∀ o, o ∈ ids → GoodID o) (hl : ids.length ≤ 100000) (hp : Octs p) (hpl : p.length ≤ 1000000000) :
    Calls Tryd.prog 31 #[v, .string (strOfNums p)] w fun e w' => ∃ v M ec, e = .returned (.tuple #[v, .int .i64 ec]) ∧ MQ ids p M ec ∧ Kept [] w w' ∧ IdsAt w' v M := by
  refine (RMatch_any v ids p w hv hg hl hp hpl).mono fun e w' h => ?_
  by_cases hd : OkB p
  · obtain ⟨v', M, rfl, h1, h2, h3⟩ := h.2.1 hd
    exact ⟨v', M, 0, rfl, Or.inl ⟨hd, rfl, h1, h2⟩, h.1, h3⟩
  · exact ⟨_, [], 20, h.2.2 hd, Or.inr ⟨hd, rfl, rfl⟩, h.1, idsAt_nil _⟩

/-- The id of place k: its first byte turned. -/
def xuL (x : List Int) (k : Nat) : List Int := x.set 0 (bits .xor .u8 (at1 x 0) (IntKind.u8.wrap (k : Int)))
def xuK (ids : List (List Int)) (k : Nat) : List (List Int) := (List.range k).map fun i => xuL (ids[i]?.getD zero32) i
def xpK (ids : List (List Int)) (k : Nat) : List (List Int) := xuK ids k ++ ids.drop k
theorem xuL_good {id : List Int} (h : GoodID id) (k : Nat) : GoodID (xuL id k) := ⟨by unfold xuL; rw [List.length_set]; exact h.1, fun u hu => by
  unfold xuL at hu
  rcases List.mem_or_eq_of_mem_set hu with hm | rfl
  · exact h.2 u hm
  · exact ⟨bits_lo_u8 _ _ _, bits_hi_u8 _ _ _⟩⟩
theorem xuK_len (ids : List (List Int)) (k : Nat) : (xuK ids k).length = k := by simp [xuK]
theorem xuK_good {ids : List (List Int)} (hg : ∀ o, o ∈ ids → GoodID o) (k : Nat) (hk : k ≤ ids.length) : ∀ o, o ∈ xuK ids k → GoodID o := fun o ho => by
  obtain ⟨j, hj, rfl⟩ := List.mem_map.1 ho
  have hj2 : j < ids.length := by have := List.mem_range.1 hj; omega
  rw [List.getElem?_eq_getElem hj2]
  exact xuL_good (hg _ (List.getElem_mem hj2)) j
theorem xuK_succ (ids : List (List Int)) (k : Nat) (x : List Int) (hx : ids[k]? = some x) : xuK ids (k + 1) = xuK ids k ++ [xuL x k] := by
  unfold xuK
  rw [List.range_succ, List.map_append, List.map_singleton, hx]
  rfl
theorem xpK_good {ids : List (List Int)} (hg : ∀ o, o ∈ ids → GoodID o) (k : Nat) (hk : k ≤ ids.length) : ∀ o, o ∈ xpK ids k → GoodID o := fun o ho => by
  rcases List.mem_append.1 ho with hm | hm
  · exact xuK_good hg k hk o hm
  · exact hg o (List.mem_of_mem_drop hm)
theorem xpK_len (ids : List (List Int)) (k : Nat) (hk : k ≤ ids.length) : (xpK ids k).length = ids.length := by unfold xpK; rw [List.length_append, xuK_len, List.length_drop]; omega
theorem xpK_zero (ids : List (List Int)) : xpK ids 0 = ids := by simp [xpK, xuK]
theorem xpK_all (ids : List (List Int)) : xpK ids ids.length = xuK ids ids.length := by simp [xpK]
theorem xpK_at (ids : List (List Int)) (k : Nat) (hk : k < ids.length) (x : List Int) (hx : ids[k]? = some x) : (xpK ids k ++ [markA, markB])[k]? = some x := by
  unfold xpK
  rw [List.append_assoc, List.getElem?_append_right (by rw [xuK_len]; exact Nat.le_refl _), xuK_len, Nat.sub_self, List.drop_eq_getElem_cons hk]
  rw [List.getElem?_eq_getElem hk] at hx
  exact hx
theorem xpK_set (ids : List (List Int)) (k : Nat) (hk : k < ids.length) (x : List Int) (hx : ids[k]? = some x) : (xpK ids k ++ [markA, markB]).set k (xuL x k) = xpK ids (k + 1) ++ [markA, markB] := by
  unfold xpK
  rw [xuK_succ ids k x hx, List.append_assoc, List.set_append_right _ _ (by rw [xuK_len]; exact Nat.le_refl _), xuK_len, Nat.sub_self, List.drop_eq_getElem_cons hk, List.cons_append, List.set_cons_zero]
  simp
theorem xpK_next (ids : List (List Int)) (k : Nat) (x : List Int) (hx : ids[k]? = some x) : (xpK ids (k + 1) ++ [markA, markB])[k]? = some (xuL x k) := by
  unfold xpK
  rw [xuK_succ ids k x hx, List.append_assoc, List.append_assoc, List.getElem?_append_right (by rw [xuK_len]; exact Nat.le_refl _), xuK_len, Nat.sub_self]
  rfl
set_option maxRecDepth 100000 in
set_option maxHeartbeats 4000000 in
theorem matchPlaced_any {w : World} {B g cap : Nat} {ids : List (List Int)} {p : List Int} (h : LentI w B g cap ids) (hg : ∀ o, o ∈ ids → GoodID o) (hl : ids.length ≤ 100000) (hp : Octs p) (hpl : p.length ≤ 1000000000) :
    Calls Tryd.prog 17 #[.slice (some ⟨g, 0, none⟩) ids.length cap, .string (strOfNums p)] w fun e w' => e = .returned (.bool true) ∧ Kept [g] w w' := by
  obtain ⟨r1, r2, r3, r4⟩ := h.room
  have hun := Tryd.underlying24
  have HG : Hid (∀ o, o ∈ ids → GoodID o) := hg
  have HM : Hid (∀ W, LentI W B g cap (xuK ids ids.length) → Calls Tryd.prog 5 #[.slice (some ⟨g, 0, none⟩) ids.length cap, .string (strOfNums p)] W (MatchD W (xuK ids ids.length) p)) := fun W hW => by
    have hgx := xuK_good hg ids.length (Nat.le_refl _)
    have h1 := hW.ids hgx (by rw [xuK_len]; omega)
    rw [xuK_len] at h1
    exact MatchD_any _ _ p W h1 hgx (by rw [xuK_len]; exact hl) hp hpl
  have HR : Hid (∀ W v, IdsAt W v (xuK ids ids.length) → Calls Tryd.prog 31 #[v, .string (strOfNums p)] W fun e w' => ∃ v M ec, e = .returned (.tuple #[v, .int .i64 ec]) ∧ MQ (xuK ids ids.length) p M ec ∧ Kept [] W w' ∧ IdsAt w' v M) := fun W v hW =>
    RMatchD_any v _ p W hW (xuK_good hg ids.length (Nat.le_refl _)) (by rw [xuK_len]; exact hl) hp hpl
  have HL0 : Hid (LentI w B g cap ids) := h
  clear h hg hp
  generalize strOfNums p = S at *
  go_enter Tryd.func17, Tryd.ntmps17
  go_wp2
  have H0N : Hid (OwnI w w.heap.size (.slice none 0 0) (xuK ids 0)) := World.ownsRow_nil w _ _ _
  go_loopw [5, 6] (fun s5 s6 wr => ∃ k : Nat, k ≤ ids.length ∧ s6 = .int .i64 k ∧ Hid (LentI wr B g cap (xpK ids k)) ∧ Hid (OwnI wr w.heap.size s5 (xuK ids k)) ∧ Hid (Kept [g] w wr)) (fun _ s6 _ => ids.length - (intOf s6).toNat)
  case atStart => exact ⟨0, Nat.zero_le _, rfl, by rw [xpK_zero]; exact HL0, H0N, Kept.refl _ _⟩
  case round =>
    clear H0N HL0
    obtain ⟨k, hk, rfl, HL, HN, HK⟩ := hrel
    by_cases hlt : k < ids.length
    · obtain ⟨x, hx⟩ : ∃ x, ids[k]? = some x := ⟨_, List.getElem?_eq_getElem hlt⟩
      have hgx := HG.out x (List.mem_of_getElem? hx)
      have hplen := xpK_len ids k hk
      have ho3 : OwnI wr B (.slice (some ⟨g, 0, none⟩) (ids.length + 2) cap) (xpK ids k ++ [markA, markB]) := by
        have h := HL.out
        unfold LentI at h
        rw [hplen] at h
        exact h
      have hgd3 : ∀ o, o ∈ xpK ids k ++ [markA, markB] → GoodID o := goodM _ (xpK_good HG.out k hk)
      have hid3 := xpK_at ids k hlt x hx
      have c3 : wr.cell? ⟨g, k * 32, none⟩ = some (.int .u8 (at1 x 0)) := OwnI.cell ho3 hgd3 k x hid3 0 (by decide)
      have f3 : wr.frozen? ⟨g, k * 32, none⟩ = false := OwnI.frozen ho3 _
      have HO3 : Hid (OwnI (wr.setCell ⟨g, k * 32, none⟩ (.int .u8 (bits .xor .u8 (at1 x 0) (IntKind.u8.wrap (k : Int))))) B (.slice (some ⟨g, 0, none⟩) (ids.length + 2) cap) (xpK ids (k + 1) ++ [markA, markB])) := by
        have h := ho3.put1 hgd3 k x hid3 0 (by decide) (bits .xor .u8 (at1 x 0) (IntKind.u8.wrap (k : Int))) ⟨bits_lo_u8 _ _ _, bits_hi_u8 _ _ _⟩
        have e := xpK_set ids k hlt x hx
        unfold xuL at e
        rw [e] at h
        exact h
      have HX1 : Hid ((xpK ids (k + 1) ++ [markA, markB])[k]? = some (xuL x k) ∧ GoodID (xuL x k) ∧ xuK ids (k + 1) = xuK ids k ++ [xuL x k]) := ⟨xpK_next ids k x hx, xuL_good hgx k, xuK_succ ids k x hx⟩
      clear hid3 hgd3 ho3 hgx hx
      go_wp2_with (fail)
      go_region_law (fail)
      obtain ⟨w4, hw4⟩ : ∃ y, y = (wr.setCell ⟨g, k * 32, none⟩ (.int .u8 (bits .xor .u8 (at1 x 0) (IntKind.u8.wrap (k : Int))))).drew := ⟨_, rfl⟩
      rw [← hw4]
      have HO4 : Hid (OwnI w4 B (.slice (some ⟨g, 0, none⟩) (ids.length + 2) cap) (xpK ids (k + 1) ++ [markA, markB])) := by rw [hw4]; exact OwnI.kept HO3.out (Kept.refl [] _).drew (by simp)
      have HL4 : Hid (LentI w4 B g cap (xpK ids (k + 1))) := by
        unfold LentI
        rw [xpK_len ids (k + 1) hlt]
        exact HO4.out
      have HK34 : Hid (Kept [g] wr w4) := by rw [hw4]; exact ((Kept.refl _ _).setCell (Or.inl (by simp)) _).drew
      have HK4 : Hid (Kept [g] w w4) := HK.out.then HK34.out
      obtain ⟨hx1, hgt, hxk⟩ := HX1.out
      have hr4 : w4.rangeAt g (k * 32) ((xuL x k).map (Value.int .u8)) := HL4.out.range (xpK_good HG.out (k + 1) hlt) (by rw [xpK_len ids (k + 1) hlt]; omega) k (xuL x k) hx1
      have hst : (Tryd.prog.info? 24).map (·.size) = some ((xuL x k).map (Value.int .u8)).length := by rw [List.length_map, hgt.1]; exact Tryd.infoID
      have hct : ((xuL x k).map (Value.int .u8)).toArray = idC (xuL x k) := rfl
      have HN4 : Hid (OwnI w4 w.heap.size u5 (xuK ids k)) := OwnI.kept HN.out HK34.out (fun b hb => by
        have := OwnI.above HN.out b hb
        simp
        omega)
      have HGt : Hid (∀ o, o ∈ [xuL x k] → GoodID o) := fun o ho => by rw [List.mem_singleton.1 ho]; exact hgt
      have HTK : Hid (xuK ids (k + 1) = xuK ids k ++ [xuL x k]) := hxk
      clear hw4 c3 f3 HO3 HO4 HX1 hx1 hxk HL HN
      generalize xuL x k = tk at *
      go_wp2_with (first
        | (refine wpList_load_mid (by rfl) 24 (.tmp 32) (by rfl) g (k * 32) (by rfl) (tk.map (Value.int .u8)) _ hr4 hun rfl hst ?_; rw [hct])
        | (refine wpList_build_id1 (by rfl) (.tmp 33) (by rfl) tk hgt (by rfl) ?_)
        | (at_builtin; refine wpList_append_ids (B := w.heap.size) (vs := xuK ids k) (zs := [tk]) rfl (.tmp 29) (.tmp 34) rfl rfl (OwnI.kept HN4.out ((Kept.refl [] w4).alloc _) (fun _ _ => by simp)) rfl (IdsAt.built w4 [tk] HGt.out (by simp)) HGt.out (by rw [xuK_len]; simp; omega) (Nat.le_trans HK4.out.size (by simp)) ?_; intro v5 w5 ha5
           have HA5 : Hid (AppendedI (w4.alloc (.cells (flatI [tk]).toArray 24)) w5 w.heap.size u5 v5 (xuK ids k ++ [tk])) := ha5
           clear ha5))
      go_roundw
      case rel =>
        have hk5 : Kept u5.ownBlock.toList w4 w5 := HA5.out.keep w4 _ ((Kept.refl _ _).alloc _) (fun b hb => Or.inl (by rw [hb]; simp))
        refine ⟨k + 1, by omega, by go_num, ?_, ?_, ?_⟩
        · refine LentI.kept HL4.out hk5 fun hb => ?_
          have hb' : u5.ownBlock = some g := by simpa using hb
          have := OwnI.above HN4.out g hb'
          omega
        · have h := HA5.out.own
          rw [← HTK.out] at h
          exact h
        · exact HA5.out.keep _ _ (HK4.out.alloc _) fun b hb => Or.inr (OwnI.above HN4.out b hb)
      case measure => simp [intOf]; omega
    · obtain rfl : k = ids.length := by omega
      rw [xpK_all] at HL
      have HGX : Hid (∀ o, o ∈ xuK ids ids.length → GoodID o) := xuK_good HG.out _ (Nat.le_refl _)
      have hm1 := HM.out wr HL.out
      have HIA : Hid (∀ W, Kept [] wr W → IdsAt W u5 (xuK ids ids.length)) := fun W hW => OwnI.good (OwnI.kept HN.out hW (fun _ _ => by simp)) (by rw [xuK_len]; omega) HGX.out
      clear HL HN
      go_wp2_with (first
        | (go_at_call 5; refine hm1.mono ?_; rintro e w2 ⟨v1, M, ec, rfl, hq, hk2, hi2, _⟩
           have HQ : Hid (MQ (xuK ids ids.length) p M ec) := hq
           have HK2 : Hid (Kept [] wr w2) := hk2
           have HI2 : Hid (IdsAt w2 v1 M) := hi2
           have hm2 := HR.out w2 u5 (HIA.out w2 hk2)
           clear hq hk2 hi2)
        | (go_at_call 31; refine hm2.mono ?_; rintro e w3 ⟨v2, M2, ec2, rfl, hq, hk3, hi3⟩
           obtain ⟨hM, he⟩ := hq.uniq HQ.out
           subst hM he
           have HK3 : Hid (Kept [] wr w3) := HK2.out.then hk3
           have hes := EqIDs_same v1 v2 M2 w3 (HI2.out.onK hk3) hi3 (fun o ho => (HQ.out.good HGX.out o ho).1)
           clear hq hk3 hi3)
        | (go_at_call 9; refine (num2D _ _).mono ?_; rintro e w4 ⟨rfl, hw⟩; subst hw)
        | (go_at_call 14; refine hes.mono ?_; rintro e w5 ⟨rfl, hk5⟩
           have HK5 : Hid (Kept [] wr w5) := HK3.out.then hk5
           clear hk5))
      go_ret
      exact ⟨rfl, HK.out.then (HK5.out.more (by simp))⟩
end Go.Proofs.YtlljiipmkjjhhaaDoor
