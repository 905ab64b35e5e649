/-
  WALK: satchellaw1.IntactIDs: ids that were lent are as they were.
-/
import Derived.Test.YtlljiipmkjjhhaaDoorShort6
namespace Go.Proofs.YtlljiipmkjjhhaaDoor
open Go.RowKit

theorem wpList_want {P : Program} {ops : Array Oper} {rest : List Oper} {o : Oper} {a : Act} {w : World} {Q : Exit → Act → World → Prop} (hw : Region.wanted o (yielded ops a.tmps) = true)
    (h : ∀ K : Act → World → Prop, (∀ a w, wpList P ops Q rest a w → K a w) → o.wp P a w K Q) : wpList P ops Q (o :: rest) a w :=
  wpList_step fun K hK => by rw [if_pos hw]; exact h K hK
theorem wp_build_mark {o : Oper} {a : Act} {w : World} {K : Act → World → Prop} {Q : Exit → Act → World → Prop} (c : Int) (m : Array Value) (ho : o.op = .build 24 #[(0, .const (.int .u8 c))])
    (hb : Tryd.prog.built 24 [(0, .int .u8 c)] = some m) (h : K (a.put o.dst (.agg m)) w) : o.wp Tryd.prog a w K Q := by
  have e : ((#[(0, Operand.const (.int .u8 c))] : Array (Nat × Operand)).map fun (i, x) => (i, a.eval x)).toList = [(0, .int .u8 c)] := by simp [Act.eval]
  refine wp_build 24 _ ho ?_ ?_
  · rw [e, hb]; rfl
  · rw [e, hb]; exact h

theorem goodM (ids : List (List Int)) (hg : ∀ o, o ∈ ids → GoodID o) : ∀ o, o ∈ ids ++ [markA, markB] → GoodID o := fun o ho => by
  rcases List.mem_append.1 ho with h | h
  · exact hg o h
  · rcases List.mem_cons.1 h with rfl | h
    · exact goodA
    · rw [List.mem_singleton.1 h]; exact goodB
theorem LentI.room {w : World} {B g cap : Nat} {ids : List (List Int)} (h : LentI w B g cap ids) : B ≤ g ∧ g < w.heap.size ∧ ids.length + 2 ≤ cap ∧ cap ≤ 9223372036854775807 := by
  obtain ⟨g', cap', hv, h1, h2, h3, h4⟩ := OwnI.form h (by simp)
  rw [List.length_append] at hv h3
  injection hv with a1 a2 a3
  injection a1 with a1
  injection a1 with a1
  subst a1 a3
  exact ⟨h1, h2, h3, h4⟩
theorem LentI.range {w : World} {B g cap : Nat} {ids : List (List Int)} (h : LentI w B g cap ids) (hg : ∀ o, o ∈ ids → GoodID o) (hm : (ids.length + 2) * 32 ≤ 140737488355328) (i : Nat) (xs : List Int) (hi : (ids ++ [markA, markB])[i]? = some xs) : w.rangeAt g (i * 32) (xs.map (Value.int .u8)) := by
  obtain ⟨ao, c, he, _, _, _, hc⟩ := OwnI.good h (by simp; omega) (goodM ids hg)
  injection he with a1 a2 a3
  obtain ⟨b, off, hb, hh⟩ := hc (by simp)
  rw [hb] at a1
  injection a1 with a1
  injection a1 with b1 b2
  subst b1 b2
  have := hh i xs hi
  rwa [Nat.zero_add] at this
theorem LentI.kept {w w' : World} {B g cap : Nat} {ids : List (List Int)} {T : List Nat} (h : LentI w B g cap ids) (k : Kept T w w') (hd : g ∉ T) : LentI w' B g cap ids :=
  OwnI.kept h k (fun x hx => by cases hx; exact hd)
theorem LentI.ids {w : World} {B g cap : Nat} {ids : List (List Int)} (h : LentI w B g cap ids) (hg : ∀ o, o ∈ ids → GoodID o) (hm : (ids.length + 2) * 32 ≤ 140737488355328) : IdsAt w (.slice (some ⟨g, 0, none⟩) ids.length cap) ids := by
  have hr := h.room
  refine ⟨_, cap, rfl, by omega, fun e => (by cases e), by omega, fun _ => ⟨g, 0, rfl, fun i xs hi => ?_⟩⟩
  have hil : i < ids.length := (List.getElem?_eq_some_iff.1 hi).1
  rw [Nat.zero_add]
  exact h.range hg hm i xs (by rw [List.getElem?_append_left hil]; exact hi)

set_option maxRecDepth 100000 in
set_option maxHeartbeats 1000000 in
theorem IntactIDs_any {w : World} {B g cap : Nat} {ids : List (List Int)} {v : Value} (h : LentI w B g cap ids) (hv : IdsAt w v ids) (hg : ∀ o, o ∈ ids → GoodID o) (hm : (ids.length + 2) * 32 ≤ 140737488355328) :
    Calls Tryd.prog 6 #[.slice (some ⟨g, 0, none⟩) ids.length cap, v] w fun e w' => e = .returned (.bool true) ∧ Kept [] w w' := by
  have HR : Hid (∀ W, Kept [] w W → ∀ i xs, (ids ++ [markA, markB])[i]? = some xs → W.rangeAt g (i * 32) (xs.map (Value.int .u8))) := fun W k i xs hi => range_kept (h.range hg hm i xs hi) k (by simp)
  have HV : Hid (∀ W, Kept [] w W → IdsAt W v ids) := fun W k => hv.keep k (fun _ _ _ => by simp)
  have HG : Hid (∀ o, o ∈ ids → GoodID o) := hg
  have hun := Tryd.underlying24
  obtain ⟨r1, r2, r3, r4⟩ := h.room
  obtain ⟨ao, c, rfl, hcap, _, hlen, _⟩ := hv
  have heqA : ∀ W, (Op.equalIn 10000 24 (.agg (idC markA)) (.agg (idC markA))).run Tryd.prog W = .ok true W := fun W => by
    have := idEq markA markA W goodA.1 goodA.1
    rwa [decide_eq_true rfl] at this
  have heqB : ∀ W, (Op.equalIn 10000 24 (.agg (idC markB)) (.agg (idC markB))).run Tryd.prog W = .ok true W := fun W => by
    have := idEq markB markB W goodB.1 goodB.1
    rwa [decide_eq_true rfl] at this
  clear h hg
  go_enter Tryd.func6, Tryd.ntmps6
  go_wp2
  go_loopw [5] (fun s5 wr => ∃ k : Nat, k ≤ ids.length ∧ s5 = .int .i64 k ∧ Hid (Kept [] w wr)) (fun s5 _ => ids.length - (intOf s5).toNat)
  case atStart => exact ⟨0, Nat.zero_le _, rfl, Kept.refl _ _⟩
  case round =>
    obtain ⟨k, hk, rfl, HK⟩ := hrel
    by_cases hlt : k < ids.length
    · obtain ⟨o, ho⟩ : ∃ o, ids[k]? = some o := ⟨_, List.getElem?_eq_getElem hlt⟩
      have hgo := HG.out o (List.mem_of_getElem? ho)
      obtain ⟨ao', cap', he, _, _, _, hc⟩ := HV.out w (Kept.refl _ _)
      injection he with e1 e2 e3
      subst e1 e3
      obtain ⟨b, off, rfl, hh⟩ := hc (by rintro rfl; simp at hlt)
      have hr := hh k o ho
      have hso : (Tryd.prog.info? 24).map (·.size) = some (o.map (Value.int .u8)).length := by rw [List.length_map, hgo.1]; exact Tryd.infoID
      have heqf : ∀ W, (Op.equalIn 10000 24 (.agg (o.map (Value.int .u8)).toArray) (.agg (o.map (Value.int .u8)).toArray)).run Tryd.prog W = .ok true W := fun W => by
        have := idEq o o W hgo.1 hgo.1
        rwa [decide_eq_true rfl] at this
      have HR1 : Hid (∀ W, Kept [] w W → W.rangeAt g (k * 32) (o.map (Value.int .u8))) := fun W hW => HR.out W hW k o (by rw [List.getElem?_append_left hlt]; exact ho)
      have HR2 : Hid (∀ W, Kept [] w W → W.rangeAt b (off + k * 32) (o.map (Value.int .u8))) := fun W hW => range_kept hr hW (by simp)
      clear hh hc ho hr heqA heqB
      go_wp2_with fail
      refine region_quiet (Kept [] w) (by kernel_rfl) (by kernel_rfl) HK.out.drew ?_
      refine quiet_move (by rfl) (.tmp 0) rfl (.slice (some ⟨g, 0, none⟩) ids.length cap) rfl ?_
      simp only [Act.put, List.setIfInBounds_toArray, List.set_cons_zero, List.set_cons_succ]
      refine quiet_move (by rfl) (.tmp 5) rfl (.int .i64 k) rfl ?_
      simp only [Act.put, List.setIfInBounds_toArray, List.set_cons_zero, List.set_cons_succ]
      refine quiet_val (by rfl) (.pointer (some ⟨g, k * 32, none⟩)) (fun W => by go_simp) ?_
      simp only [Act.put, List.setIfInBounds_toArray, List.set_cons_zero, List.set_cons_succ]
      refine quiet_row (by rfl) _ _ rfl g (k * 32) rfl (o.map (Value.int .u8)) _ HR1.out hun rfl hso ?_
      simp only [Act.put, List.setIfInBounds_toArray, List.set_cons_zero, List.set_cons_succ]
      refine quiet_move (by rfl) (.tmp 1) rfl (.slice (some ⟨b, off, none⟩) ids.length c) rfl ?_
      simp only [Act.put, List.setIfInBounds_toArray, List.set_cons_zero, List.set_cons_succ]
      refine quiet_move (by rfl) (.tmp 5) rfl (.int .i64 k) rfl ?_
      simp only [Act.put, List.setIfInBounds_toArray, List.set_cons_zero, List.set_cons_succ]
      refine quiet_val (by rfl) (.pointer (some ⟨b, off + k * 32, none⟩)) (fun W => by go_simp) ?_
      simp only [Act.put, List.setIfInBounds_toArray, List.set_cons_zero, List.set_cons_succ]
      refine quiet_row (by rfl) _ _ rfl b (off + k * 32) rfl (o.map (Value.int .u8)) _ HR2.out hun rfl hso ?_
      simp only [Act.put, List.setIfInBounds_toArray, List.set_cons_zero, List.set_cons_succ]
      refine quiet_neq (by rfl) (.tmp 16) (.tmp 20) _ rfl _ _ rfl rfl true heqf ?_
      simp only [Act.put, List.setIfInBounds_toArray, List.set_cons_zero, List.set_cons_succ]
      refine wpQuiet_nil fun w3 hk3 => ?_
      have HK3 : Hid _ := hk3
      clear hk3
      go_wp2
      go_roundw
      case rel => exact ⟨k + 1, by omega, by go_num, HK3⟩
      case measure => simp [intOf]; omega
    · obtain rfl : k = ids.length := by omega
      have hA := HR.out wr HK.out ids.length markA (by simp)
      have hB := HR.out wr HK.out (ids.length + 1) markB (by rw [List.getElem?_append_right (by omega)]; simp)
      have hsA : (Tryd.prog.info? 24).map (·.size) = some (markA.map (Value.int .u8)).length := Tryd.infoID
      have hsB : (Tryd.prog.info? 24).map (·.size) = some (markB.map (Value.int .u8)).length := Tryd.infoID
      have hcA : (markA.map (Value.int .u8)).toArray = idC markA := rfl
      have hcB : (markB.map (Value.int .u8)).toArray = idC markB := rfl
      have hbA := Tryd.builtA
      have hbB := Tryd.builtB
      generalize idC markA = ma at *
      generalize idC markB = mb at *
      go_wp2_with (first
        | (refine wpList_load_mid (by rfl) 24 (.tmp 30) (by rfl) g (ids.length * 32) (by rfl) (markA.map (Value.int .u8)) _ hA hun rfl hsA ?_; rw [hcA])
        | (refine wpList_build_mark (by rfl) 165 ma (by rfl) hbA ?_)
        | (refine wpList_want (by rfl) fun K hK => wp_load_mid 24 (.tmp 39) (by rfl) g ((ids.length + 1) * 32) (by rfl) (markB.map (Value.int .u8)) _ hB hun rfl hsB (hK _ _ ?_); rw [hcB])
        | (refine wpList_want (by rfl) fun K hK => wp_build_mark 90 mb (by rfl) hbB (hK _ _ ?_)))
      go_ret
      exact ⟨rfl, HK.out⟩
end Go.Proofs.YtlljiipmkjjhhaaDoor
