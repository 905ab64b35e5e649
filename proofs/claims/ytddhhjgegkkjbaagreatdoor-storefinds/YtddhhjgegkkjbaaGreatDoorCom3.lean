/-
  WALK: (*store.Store).Find: by the digits that just one, several or no object's id begins with.
  PLAIN: which ids begin with the first digits of an id.
  WALKS: Guess.number, Guess.text of satchelref3.
  WALK: object.readCommit.
-/
import Derived.Test.YtddhhjgegkkjbaaGreatDoorFd2
import Derived.Test.YtddhhjgegkkjbaaGreatDoorBack0
import Derived.Test.YtddhhjgegkkjbaaGreatDoorIdEq
import Derived.Test.YtddhhjgegkkjbaaGreatDoorPlain
import Derived.Deep.CutRange
import Derived.Test.YtddhhjgegkkjbaaGreatDoorLk0
namespace Go.Proofs.YtddhhjgegkkjbaaGreatDoor
open Go.RowKit Go.Shelf Go.WideMaps

theorem zero_litF : (#[Value.int .u8 0, Value.int .u8 0, Value.int .u8 0, Value.int .u8 0, Value.int .u8 0, Value.int .u8 0, Value.int .u8 0, Value.int .u8 0, Value.int .u8 0, Value.int .u8 0, Value.int .u8 0, Value.int .u8 0, Value.int .u8 0, Value.int .u8 0, Value.int .u8 0, Value.int .u8 0, Value.int .u8 0, Value.int .u8 0, Value.int .u8 0, Value.int .u8 0, Value.int .u8 0, Value.int .u8 0, Value.int .u8 0, Value.int .u8 0, Value.int .u8 0, Value.int .u8 0, Value.int .u8 0, Value.int .u8 0, Value.int .u8 0, Value.int .u8 0, Value.int .u8 0, Value.int .u8 0] : Array Value) = idC zero32 := rfl
/-- Digits by which an object may be asked for. -/
def OkP (p : List Int) : Prop := 4 ≤ p.length ∧ p.length ≤ 64 ∧ ∀ c, c ∈ p → isDigit c
structure FindTo (w : World) (ids : List (List Int)) (p : List Int) (e : Ending) (w' : World) : Prop where
  kept : Kept [] w w'
  bad : ¬ OkP p → ∃ z, z.length = 32 ∧ e = .returned (.tuple #[.agg (idC z), .int .i64 42])
  one : OkP p → ∀ x, ids.filter (hitL p) = [x] → e = .returned (.tuple #[.agg (idC x), .int .i64 0])
  many : OkP p → 2 ≤ (ids.filter (hitL p)).length → ∃ z, z.length = 32 ∧ e = .returned (.tuple #[.agg (idC z), .int .i64 43])
  tells : ∃ z er, z.length = 32 ∧ e = .returned (.tuple #[.agg (idC z), .int .i64 er])
theorem IdsOf.nodup {D : DataW Unit} {ids : List (List Int)} (h : IdsOf D ids) : ids.Nodup := SortedIds.apart h.sorted
set_option maxRecDepth 100000 in
set_option maxHeartbeats 4000000 in
theorem Find_st {w : World} {s b n : Nat} {D : DataW Unit} (h : St w s b n D) (hn : n ≤ 100000) (hE : NonE D) {ids : List (List Int)} (hof : IdsOf D ids) (p : List Int) (hp : Octs p) (hpl : p.length ≤ 100000) :
    Calls Tryz.prog 16 #[.pointer (some ⟨s, 0, none⟩), .string (strOfNums p)] w (FindTo w ids p) := by
  obtain ⟨W0, hW0⟩ : ∃ W0, W0 = w.alloc (.cells (idC zero32) 36) := ⟨_, rfl⟩
  have k0 : Kept [] w W0 := by rw [hW0]; exact (Kept.refl _ _).alloc _
  have hlen : ids.length ≤ 100000 := by
    have h1 := h.size
    rw [hof.len]
    omega
  have HL : Hid (ids.length ≤ 100000) := hlen
  have hids : Calls Tryz.prog 7 #[.pointer (some ⟨s, 0, none⟩)] W0 fun e w' => ∃ v, e = .returned v ∧ IdsAt w' v ids ∧ Kept [] W0 w' := (Ids_any (h.on k0) (by omega) hE).mono fun e w' ⟨v, ids', h1, h2, h3, h4⟩ => by
    obtain rfl : ids = ids' := hof.uniq h3 (fun _ => rfl)
    exact ⟨v, h1, h2.at (fun id hid => (hof.mem id hid).1) (by omega), h4⟩
  have hgi : ∀ id, id ∈ ids → GoodID id := fun id hid => (hof.mem id hid).1
  have HG : Hid (∀ id, id ∈ ids → GoodID id) := hgi
  have hmat : ∀ v W, IdsAt W v ids → Calls Tryz.prog 31 #[v, .string (strOfNums p)] W (MatchTo W ids p) := fun v W hi => Match_any v ids p W hi hgi hof.nodup hlen hp hpl
  have hsz0 : (Tryz.prog.info? 36).map (·.size) = some (idC zero32).size := Tryz.infoID
  have hall0 : (idC zero32).all (·.oneCell') = true := all_oneCell_toArray (map_oneCell _)
  have hui := Tryz.underlying36
  obtain ⟨S, hS⟩ : ∃ S, S = strOfNums p := ⟨_, rfl⟩
  rw [← hS] at hmat ⊢
  rw [hW0] at hids
  have HZ : Hid ((w.alloc (.cells (idC zero32) 36)).heap[w.heap.size]? = some (.cells (idC zero32) 36 (0, 0))) := heap_alloc_new w _
  have HK0 : Hid (Kept [] w (w.alloc (.cells (idC zero32) 36))) := (Kept.refl _ _).alloc _
  clear h hE hof hp hpl hS k0 hW0 hlen hgi
  by_cases hok : OkP p
  · obtain ⟨F, hF⟩ : ∃ F, F = ids.filter (hitL p) := ⟨_, rfl⟩
    have HF : Hid (F = ids.filter (hitL p)) := hF
    have hmat2 : ∀ v W, IdsAt W v ids → Calls Tryz.prog 31 #[v, .string S] W fun e w' => ∃ ao2 cap2, e = .returned (.tuple #[.slice ao2 F.length cap2, .int .i64 0]) ∧ (∃ M, M.Perm F ∧ IdsAt w' (.slice ao2 F.length cap2) M) ∧ Kept [] W w' := fun v W hi => (hmat v W hi).mono fun e w' q => by
      obtain ⟨z, M, h1, h2, h3⟩ := q.good hok
      rw [← hF] at h2
      have h3' := h3
      obtain ⟨ao2, cap2, rfl, _⟩ := h3'
      rw [h2.length_eq] at h1 h3
      exact ⟨ao2, cap2, h1, ⟨M, h2, h3⟩, q.kept⟩
    have HOK : Hid (OkP p) := hok
    have hFl : F.length ≤ 100000 := by
      rw [hF]
      exact Nat.le_trans (List.length_filter_le _ _) HL.out
    clear hmat hok hF
    by_cases h0 : F.length = 0
    · have t1 : ((F.length : Int) == 0) = true := beq_iff_eq.2 (by omega)
      go_enter Tryz.func16, Tryz.ntmps16
      go_wp2_with (first
        | (go_at_call 7; refine hids.mono ?_; rintro e w1 ⟨v1, rfl, hat1, hk1⟩
           have H1 : Hid (w1.heap[w.heap.size]? = some (.cells (idC zero32) 36 (0, 0))) := hk1.heap HZ.out (by simp)
           have HK1 : Hid (Kept [] w w1) := HK0.out.then hk1
           have hmt := hmat2 v1 w1 hat1
           clear hk1 hat1)
        | (go_at_call 31; refine hmt.mono ?_; rintro e w2 ⟨ao2, cap2, rfl, hM, hk2⟩
           have H2 : Hid (w2.heap[w.heap.size]? = some (.cells (idC zero32) 36 (0, 0))) := hk2.heap H1.out (by simp)
           have HK2 : Hid (Kept [] w w2) := HK1.out.then hk2
           clear hk2)
        | (refine wpList_store_row (by rfl) 36 (.tmp 4) (.tmp 23) (by rfl) w.heap.size (idC zero32) (by rfl) (by rfl) 36 (idC zero32) H2.out hsz0 rfl hall0 ?_))
      refine bodyPost_ret (v := .tuple #[.agg (idC zero32), .int .i64 41]) ?_ rfl ⟨kept_setRow HK2.out (Nat.le_refl _) _, fun h => absurd HOK.out h, fun _ x hx => ?_, fun _ hx => ?_, ⟨_, _, rfl, rfl⟩⟩
      · rw [results_cell_tmp rfl]
        try rw [zero_litF]
        have hld := run_loadVar_row (P := Tryz.prog) (w2.setRow w.heap.size (idC zero32)) w.heap.size 36 36 (idC zero32) (0, 0) _ (setRow_heap _ _ _ _ _ _ H2.out) hui rfl hsz0
        simp [asAddr, Result.andThen, hld]
      · rw [← HF.out] at hx
        rw [hx] at h0
        simp at h0
      · rw [← HF.out] at hx
        omega
    · by_cases h2 : 2 ≤ F.length
      · have t1 : ((F.length : Int) == 0) = false := beq_eq_false_iff_ne.2 (by omega)
        have t2 : decide ((1 : Int) < (F.length : Int)) = true := decide_eq_true (by omega)
        have t2' : 1 < F.length := by omega
        go_enter Tryz.func16, Tryz.ntmps16
        go_wp2_with (first
          | (go_at_call 7; refine hids.mono ?_; rintro e w1 ⟨v1, rfl, hat1, hk1⟩
             have H1 : Hid (w1.heap[w.heap.size]? = some (.cells (idC zero32) 36 (0, 0))) := hk1.heap HZ.out (by simp)
             have HK1 : Hid (Kept [] w w1) := HK0.out.then hk1
             have hmt := hmat2 v1 w1 hat1
             clear hk1 hat1)
          | (go_at_call 31; refine hmt.mono ?_; rintro e w2 ⟨ao2, cap2, rfl, hM, hk2⟩
             have H2 : Hid (w2.heap[w.heap.size]? = some (.cells (idC zero32) 36 (0, 0))) := hk2.heap H1.out (by simp)
             have HK2 : Hid (Kept [] w w2) := HK1.out.then hk2
             clear hk2)
          | (refine wpList_store_row (by rfl) 36 (.tmp 4) (.tmp 28) (by rfl) w.heap.size (idC zero32) (by rfl) (by rfl) 36 (idC zero32) H2.out hsz0 rfl hall0 ?_))
        refine bodyPost_ret (v := .tuple #[.agg (idC zero32), .int .i64 43]) ?_ rfl ⟨kept_setRow HK2.out (Nat.le_refl _) _, fun h => absurd HOK.out h, fun _ x hx => ?_, fun _ _ => ⟨_, rfl, rfl⟩, ⟨_, _, rfl, rfl⟩⟩
        · rw [results_cell_tmp rfl]
          try rw [zero_litF]
          have hld := run_loadVar_row (P := Tryz.prog) (w2.setRow w.heap.size (idC zero32)) w.heap.size 36 36 (idC zero32) (0, 0) _ (setRow_heap _ _ _ _ _ _ H2.out) hui rfl hsz0
          simp [asAddr, Result.andThen, hld]
        · rw [← HF.out] at hx
          rw [hx] at t2'
          simp at t2'
      · have h1 : F.length = 1 := by omega
        obtain ⟨x, rfl⟩ : ∃ x, F = [x] := by
          match F, h1 with
          | [x], _ => exact ⟨x, rfl⟩
        have hgx : GoodID x := HG.out x (by
          have : x ∈ ids.filter (hitL p) := by rw [← HF.out]; simp
          exact (List.mem_filter.1 this).1)
        have hsx : (Tryz.prog.info? 36).map (·.size) = some (x.map (Value.int .u8)).length := by rw [List.length_map, hgx.1]; exact Tryz.infoID
        have hsc : (Tryz.prog.info? 36).map (·.size) = some (idC x).size := by rw [idC_size hgx.1]; exact Tryz.infoID
        have hax : (idC x).all (·.oneCell') = true := all_oneCell_toArray (map_oneCell _)
        have hzx : (idC zero32).size = (idC x).size := by rw [idC_size hgx.1]; rfl
        have hxc : (x.map (Value.int .u8)).toArray = idC x := rfl
        have HX32 : Hid (x.length = 32) := hgx.1
        clear h0 h2 h1 hFl hgx
        simp only [List.length_singleton] at hmat2
        go_enter Tryz.func16, Tryz.ntmps16
        go_wp2_with (first
          | (go_at_call 7; refine hids.mono ?_; rintro e w1 ⟨v1, rfl, hat1, hk1⟩
             have H1 : Hid (w1.heap[w.heap.size]? = some (.cells (idC zero32) 36 (0, 0))) := hk1.heap HZ.out (by simp)
             have HK1 : Hid (Kept [] w w1) := HK0.out.then hk1
             have hmt := hmat2 v1 w1 hat1
             clear hk1 hat1)
          | (go_at_call 31; refine hmt.mono ?_; rintro e w2 ⟨ao2, cap2, rfl, hM, hk2⟩
             have H2 : Hid (w2.heap[w.heap.size]? = some (.cells (idC zero32) 36 (0, 0))) := hk2.heap H1.out (by simp)
             have HK2 : Hid (Kept [] w w2) := HK1.out.then hk2
             obtain ⟨g2, f2, hao2, hr2⟩ : ∃ g2 f2, ao2 = some ⟨g2, f2, none⟩ ∧ w2.rangeAt g2 f2 (x.map (Value.int .u8)) := by
               obtain ⟨M, hMp, ao', cap', he, _, _, _, hc⟩ := hM
               obtain rfl : M = [x] := List.perm_singleton.1 hMp
               injection he with e1 _ _
               obtain ⟨g2, f2, e2, hh⟩ := hc (by simp)
               have h := hh 0 x rfl
               rw [Nat.zero_mul, Nat.add_zero] at h
               exact ⟨g2, f2, e1.trans e2, h⟩
             subst hao2
             clear hM
             clear hk2)
          | (refine wpList_load_mid (by rfl) 36 (.tmp 30) (by rfl) g2 f2 (by rfl) (x.map (Value.int .u8)) _ hr2 hui rfl hsx ?_; rw [hxc])
          | (refine wpList_store_row (by rfl) 36 (.tmp 4) (.tmp 31) (by rfl) w.heap.size (idC x) (by rfl) (by rfl) 36 (idC zero32) H2.out hsc hzx hax ?_))
        refine bodyPost_ret (v := .tuple #[.agg (idC x), .int .i64 0]) ?_ rfl ⟨kept_setRow HK2.out (Nat.le_refl _) _, fun h => absurd HOK.out h, fun _ y hy => ?_, fun _ hy => ?_, ⟨_, _, HX32.out, rfl⟩⟩
        · rw [results_cell_tmp rfl]
          have hld := run_loadVar_row (P := Tryz.prog) (w2.setRow w.heap.size (idC x)) w.heap.size 36 36 (idC x) (0, 0) _ (setRow_heap _ _ _ _ _ _ H2.out) hui rfl hsc
          simp [asAddr, Result.andThen, hld]
        · rw [← HF.out] at hy
          injection hy with hy _
          rw [hy]
        · rw [← HF.out] at hy
          simp at hy
  · have hmat2 : ∀ v W, IdsAt W v ids → Calls Tryz.prog 31 #[v, .string S] W fun e w' => e = .returned (.tuple #[.slice none 0 0, .int .i64 20]) ∧ Kept [] W w' := fun v W hi => (hmat v W hi).mono fun e w' q => by
      obtain ⟨z, h1, rfl⟩ := q.bad hok
      exact ⟨h1, q.kept⟩
    have HOK : Hid (¬ OkP p) := hok
    clear hmat hok
    go_enter Tryz.func16, Tryz.ntmps16
    go_wp2_with (first
      | (go_at_call 7; refine hids.mono ?_; rintro e w1 ⟨v1, rfl, hat1, hk1⟩
         have H1 : Hid (w1.heap[w.heap.size]? = some (.cells (idC zero32) 36 (0, 0))) := hk1.heap HZ.out (by simp)
         have HK1 : Hid (Kept [] w w1) := HK0.out.then hk1
         have hmt := hmat2 v1 w1 hat1
         clear hk1 hat1)
      | (go_at_call 31; refine hmt.mono ?_; rintro e w2 ⟨rfl, hk2⟩
         have H2 : Hid (w2.heap[w.heap.size]? = some (.cells (idC zero32) 36 (0, 0))) := hk2.heap H1.out (by simp)
         have HK2 : Hid (Kept [] w w2) := HK1.out.then hk2
         clear hk2)
      | (refine wpList_store_row (by rfl) 36 (.tmp 4) (.tmp 18) (by rfl) w.heap.size (idC zero32) (by rfl) (by rfl) 36 (idC zero32) H2.out hsz0 rfl hall0 ?_))
    refine bodyPost_ret (v := .tuple #[.agg (idC zero32), .int .i64 42]) ?_ rfl ⟨kept_setRow HK2.out (Nat.le_refl _) _, fun _ => ⟨_, rfl, rfl⟩, fun h => absurd h HOK.out, fun h => absurd h HOK.out, ⟨_, _, rfl, rfl⟩⟩
    rw [results_cell_tmp rfl]
    try rw [zero_litF]
    have hld := run_loadVar_row (P := Tryz.prog) (w2.setRow w.heap.size (idC zero32)) w.heap.size 36 36 (idC zero32) (0, 0) _ (setRow_heap _ _ _ _ _ _ H2.out) hui rfl hsz0
    simp [asAddr, Result.andThen, hld]
end Go.Proofs.YtddhhjgegkkjbaaGreatDoor

namespace Go.Proofs.YtddhhjgegkkjbaaGreatDoor
open Go.RowKit

theorem half_beg (p : List Int) (k j : Nat) (hj : j < 64) : halfL (begL p k) j = vAt p k j := by
  have h1 := vAt_fits p k (2 * (j / 2))
  have h2 := vAt_fits p k (2 * (j / 2) + 1)
  have hg := begL_get p k (j / 2) (by omega)
  unfold halfL
  rw [hg]
  by_cases hp : j % 2 = 0
  · rw [if_pos hp, show j = 2 * (j / 2) by omega]
    rw [show 2 * (j / 2) / 2 = j / 2 by omega]
    omega
  · rw [if_neg hp]
    have e : j = 2 * (j / 2) + 1 := by omega
    rw [show vAt p k j = vAt p k (2 * (j / 2) + 1) by rw [← e]]
    omega
theorem hex_ok {id : List Int} (hid : GoodID id) {k : Nat} (h4 : 4 ≤ k) (h64 : k ≤ 64) : OkP ((hexL id).take k) ∧ ((hexL id).take k).length = k := by
  have hl : ((hexL id).take k).length = k := by rw [List.length_take, hexL_len]; omega
  refine ⟨⟨by omega, by omega, fun c hc => ?_⟩, hl⟩
  exact (hexL_mem id hid.2 c (List.mem_of_mem_take hc)).1
theorem hex_octs {id : List Int} (hid : GoodID id) : Octs (hexL id) := fun c hc => (hexL_mem id hid.2 c hc).2
/-- An id begins with the first k digits of another one. -/
theorem hit_iff {id o : List Int} (hid : GoodID id) {k : Nat} (h64 : k ≤ 64) : hitL ((hexL id).take k) o = true ↔ k ≤ comL o id := by
  have hl : ((hexL id).take k).length = k := by rw [List.length_take, hexL_len]; omega
  unfold hitL
  rw [decide_eq_true_eq, hl]
  have hv : ∀ j, j < k → halfL (begL ((hexL id).take k) k) j = halfL id j := fun j hj => by
    rw [half_beg _ _ _ (by omega)]
    unfold vAt
    rw [if_pos hj, List.getElem?_take_of_lt hj, hexL_get id j (by omega)]
    have h := halfL_fits id hid.2 j
    exact (digit_is _ h.1 h.2).2.1
  have s1 := comL_spec o (begL ((hexL id).take k) k)
  have s2 := comL_spec o id
  constructor
  · intro h
    rcases Nat.lt_or_ge (comL o id) k with hlt | hge
    · exact absurd ((s1.2.1 _ (Nat.lt_of_lt_of_le hlt h)).trans (hv _ hlt)) (s2.2.2 (by omega))
    · exact hge
  · intro h
    rcases Nat.lt_or_ge (comL o (begL ((hexL id).take k) k)) k with hlt | hge
    · exact absurd ((s2.2.1 _ (Nat.lt_of_lt_of_le hlt h)).trans (hv _ hlt).symm) (s1.2.2 (by omega))
    · exact hge
theorem com_self (id : List Int) : comL id id = 64 := comL_eq id id 64 (Nat.le_refl _) (fun _ _ => rfl) (fun h => by omega)
/-- The only one that begins so. -/
theorem filter_one {f : List Int → Bool} {x : List Int} : ∀ {ids : List (List Int)}, ids.Nodup → x ∈ ids → f x = true → (∀ o, o ∈ ids → o ≠ x → f o = false) → ids.filter f = [x]
  | [], _, hx, _, _ => by cases hx
  | y :: ids, hn, hx, hf, ho => by
    have h2 := List.nodup_cons.1 hn
    by_cases e : y = x
    · subst e
      rw [List.filter_cons_of_pos hf]
      congr 1
      rw [List.filter_eq_nil_iff]
      intro o hm
      rw [ho o (by simp [hm]) (fun e => h2.1 (e ▸ hm))]
      simp
    · rw [List.filter_cons_of_neg (by rw [ho y (by simp) e]; simp)]
      exact filter_one h2.2 ((List.mem_cons.1 hx).resolve_left (fun h => e h.symm)) hf (fun o hm hne => ho o (by simp [hm]) hne)
theorem filter_two {f : List Int → Bool} {ids : List (List Int)} {x y : List Int} (hx : x ∈ ids) (hy : y ∈ ids) (hne : x ≠ y) (hfx : f x = true) (hfy : f y = true) : 2 ≤ (ids.filter f).length := by
  have h1 : x ∈ ids.filter f := List.mem_filter.2 ⟨hx, hfx⟩
  have h2 : y ∈ ids.filter f := List.mem_filter.2 ⟨hy, hfy⟩
  match h : ids.filter f with
  | [] => rw [h] at h1; cases h1
  | [z] =>
    rw [h] at h1 h2
    exact absurd ((List.mem_singleton.1 h1).trans (List.mem_singleton.1 h2).symm) hne
  | _ :: _ :: _ => simp
theorem size_le {ids : List (List Int)} {id o : List Int} (ho : o ∈ ids) (hne : o ≠ id) : comL o id + 1 ≤ sizeL ids id := by
  have key : ∀ (l : List (List Int)) (s : Nat), s ≤ l.foldl (fun s o => if o = id then s else max s (comL o id + 1)) s ∧ (o ∈ l → comL o id + 1 ≤ l.foldl (fun s o => if o = id then s else max s (comL o id + 1)) s) := fun l => by
    induction l with
    | nil => exact fun s => ⟨Nat.le_refl _, fun h => by cases h⟩
    | cons y l ih =>
      intro s
      rw [List.foldl_cons]
      have h1 := ih (if y = id then s else max s (comL y id + 1))
      refine ⟨Nat.le_trans ?_ h1.1, fun hm => ?_⟩
      · split
        · exact Nat.le_refl _
        · omega
      · rcases List.mem_cons.1 hm with rfl | hm
        · refine Nat.le_trans ?_ h1.1
          rw [if_neg hne]
          omega
        · exact h1.2 hm
  exact (key ids 4).2 ho
theorem size_met {ids : List (List Int)} {id : List Int} (h : 4 < sizeL ids id) : ∃ o, o ∈ ids ∧ o ≠ id ∧ comL o id + 1 = sizeL ids id := by
  have key : ∀ (l : List (List Int)) (s : Nat), l.foldl (fun s o => if o = id then s else max s (comL o id + 1)) s = s ∨ ∃ o, o ∈ l ∧ o ≠ id ∧ comL o id + 1 = l.foldl (fun s o => if o = id then s else max s (comL o id + 1)) s := fun l => by
    induction l with
    | nil => exact fun s => Or.inl rfl
    | cons y l ih =>
      intro s
      rw [List.foldl_cons]
      rcases ih (if y = id then s else max s (comL y id + 1)) with h1 | ⟨o, h1, h2, h3⟩
      · by_cases e : y = id
        · rw [if_pos e] at h1 ⊢
          exact Or.inl h1
        · rw [if_neg e] at h1 ⊢
          rw [h1]
          rcases Nat.le_total (comL y id + 1) s with h2 | h2
          · exact Or.inl (by omega)
          · exact Or.inr ⟨y, by simp, e, by omega⟩
      · exact Or.inr ⟨o, by simp [h1], h2, h3⟩
  rcases key ids 4 with h1 | h1
  · unfold sizeL at h
    omega
  · exact h1
section
variable {ids : List (List Int)} {id : List Int}
theorem short_one (hn : ids.Nodup) (hg : ∀ o, o ∈ ids → GoodID o) (hid : id ∈ ids) : ids.filter (hitL ((hexL id).take (sizeL ids id))) = [id] := by
  have hf := sizeL_fits id (hg id hid) ids hg
  refine filter_one hn hid ((hit_iff (hg id hid) hf.2).2 (by rw [com_self]; exact hf.2)) (fun o ho hne => ?_)
  have h1 := size_le ho hne
  cases hq : hitL ((hexL id).take (sizeL ids id)) o with
  | false => rfl
  | true =>
    have h2 := (hit_iff (hg id hid) hf.2).1 hq
    omega
theorem whole_one (hn : ids.Nodup) (hg : ∀ o, o ∈ ids → GoodID o) (hid : id ∈ ids) : ids.filter (hitL (hexL id)) = [id] := by
  have e : (hexL id).take 64 = hexL id := List.take_of_length_le (by rw [hexL_len]; omega)
  rw [← e]
  refine filter_one hn hid ((hit_iff (hg id hid) (Nat.le_refl _)).2 (by rw [com_self]; omega)) (fun o ho hne => ?_)
  have h1 := comL_lt o id (hg o ho) (hg id hid) hne
  cases hq : hitL ((hexL id).take 64) o with
  | false => rfl
  | true =>
    have h2 := (hit_iff (hg id hid) (Nat.le_refl _)).1 hq
    omega
theorem shorter_many (hg : ∀ o, o ∈ ids → GoodID o) (hid : id ∈ ids) (h4 : 4 < sizeL ids id) : 2 ≤ (ids.filter (hitL ((hexL id).take (sizeL ids id - 1)))).length := by
  have hf := sizeL_fits id (hg id hid) ids hg
  obtain ⟨o, ho, hne, hc⟩ := size_met h4
  exact filter_two ho hid hne ((hit_iff (hg id hid) (by omega)).2 (by omega)) ((hit_iff (hg id hid) (by omega)).2 (by rw [com_self]; omega))
end
end Go.Proofs.YtddhhjgegkkjbaaGreatDoor

namespace Go.Proofs.YtddhhjgegkkjbaaGreatDoor
open Go.RowKit

/-- A number guessed: it, and how many bytes were asked for. -/
def numG (xs : List Int) (p : Nat) : Int × Nat :=
  if xAt xs p < 128 then (xAt xs p % 128, 1)
  else if xAt xs (p + 1) < 128 then (xAt xs p % 128 + 128 * (xAt xs (p + 1) % 128), 2)
  else (xAt xs p % 128 + 128 * (xAt xs (p + 1) % 128) + 16384 * (xAt xs (p + 2) % 128), 3)
/-- A text guessed: where it begins, where it ends. -/
def txtP (xs : List Int) (p : Nat) : Nat := plus xs p (numG xs p).2
def txtN (xs : List Int) (p : Nat) : Nat := min (numG xs p).1.toNat (xs.length - txtP xs p)
def txtG (xs : List Int) (p : Nat) : List Int := (xs.drop (txtP xs p)).take (txtN xs p)
def txtE (xs : List Int) (p : Nat) : Nat := txtP xs p + txtN xs p
theorem txtG_len (xs : List Int) (p : Nat) : (txtG xs p).length = txtN xs p := by
  unfold txtG
  rw [List.length_take, List.length_drop]
  unfold txtN
  omega

end Go.Proofs.YtddhhjgegkkjbaaGreatDoor

namespace Go.Proofs.YtddhhjgegkkjbaaGreatDoor
open Go.RowKit

/-- So many ids read. -/
def rdIs (xs : List Int) (pl f : Nat) : Nat → List (List Int) × Nat × Nat
  | 0 => ([], pl, f)
  | k + 1 => ((rdIs xs pl f k).1 ++ [idOf (takeL xs (rdIs xs pl f k).2.1 (rdIs xs pl f k).2.2 3 32 0).text], (takeL xs (rdIs xs pl f k).2.1 (rdIs xs pl f k).2.2 3 32 0).pl, (takeL xs (rdIs xs pl f k).2.1 (rdIs xs pl f k).2.2 3 32 0).f)
theorem rdIs_len (xs : List Int) (pl f : Nat) : ∀ k, (rdIs xs pl f k).1.length = k
  | 0 => rfl
  | k + 1 => by unfold rdIs; rw [List.length_append, rdIs_len xs pl f k]; rfl
theorem rdIs_ids (xs : List Int) (pl f : Nat) : ∀ k e, e ∈ (rdIs xs pl f k).1 → e.length = 32
  | 0, e, h => by simp [rdIs] at h
  | k + 1, e, h => by
    unfold rdIs at h
    rcases List.mem_append.1 h with h | h
    · exact rdIs_ids xs pl f k e h
    · rw [List.mem_singleton.1 h]
      exact idOf_len (raw32_len _ _ _)
def idRow (x : List Int) : List Value := x.map (Value.int .u8)
def halfI (l : List (List Int)) (n : Nat) : List (List Value) := (l ++ List.replicate (n - l.length) zero32).map idRow
theorem halfI_row (l : List (List Int)) (n : Nat) (hl : ∀ e, e ∈ l → e.length = 32) : ∀ r, r ∈ halfI l n → r.length = 32 := fun r hr => by
  unfold halfI at hr
  obtain ⟨e, he, rfl⟩ := List.mem_map.1 hr
  have : e.length = 32 := by
    rcases List.mem_append.1 he with h | h
    · exact hl e h
    · rw [(List.mem_replicate.1 h).2]; rfl
  simp [idRow, this]
theorem halfI_at (l : List (List Int)) (n : Nat) (h : l.length < n) : (halfI l n)[l.length]? = some (idRow zero32) := by
  unfold halfI
  rw [List.getElem?_map, List.getElem?_append_right (Nat.le_refl _), Nat.sub_self, List.getElem?_replicate, if_pos (by omega)]
  rfl
theorem halfI_put (l : List (List Int)) (n : Nat) (h : l.length < n) (e : List Int) : (halfI l n).set l.length (idRow e) = halfI (l ++ [e]) n := by
  unfold halfI
  rw [List.length_append, List.length_singleton]
  obtain ⟨m, hm⟩ : ∃ m, n - l.length = m + 1 := ⟨n - l.length - 1, by omega⟩
  rw [show n - (l.length + 1) = m by omega, hm, List.replicate_succ, ← List.map_set, List.set_append_right _ _ (Nat.le_refl _), Nat.sub_self, List.set_cons_zero]
  simp
theorem Tryz.zeroIDi : (Tryz.prog.info? 36).map (fun i => (i.zero, i.size, i.bytes)) = some (some (.agg (idRow zero32).toArray), 32, 32) := by kernel_rfl

def zeroC : ComL := ⟨zero32, [], [], 0, []⟩
theorem Tryz.builtCom (parts : List (Nat × Value)) : Tryz.prog.built 102 parts = Instr.fill (fun i => (#[(0, 32), (32, 1), (33, 1), (34, 1), (35, 1)] : Array (Nat × Nat))[i]?) (zeroC.row (.slice none 0 0)).toArray parts := by kernel_rfl
theorem built_com (id : List Int) (hi : id.length = 32) : Tryz.prog.built 102 [(0, .agg (idC id))] = some ((ComL.mk id [] [] 0 []).row (.slice none 0 0)).toArray := by
  rw [Tryz.builtCom, fill_step (fun i => (#[(0, 32), (32, 1), (33, 1), (34, 1), (35, 1)] : Array (Nat × Nat))[i]?) (zeroC.row (.slice none 0 0)).toArray 0 (.agg (idC id)) _ 0 32 rfl (idC_size hi) (by decide), fill_nil]
  have e : (Value.agg (idC id)).cells.toList = id.map (Value.int .u8) := rfl
  rw [e, setL_put _ _ _ (by rw [List.length_map, hi]; decide)]
  congr 2
  unfold putL ComL.row zeroC
  simp [zero32, hi]
theorem com_set (c : ComL) (pv : Value) (hl : c.tree.length = 32) : (∀ (v : Value) (ps : List (List Int)), (c.row pv).toArray.setIfInBounds 32 v = (({ c with parents := ps } : ComL).row v).toArray) ∧ (∀ s, (c.row pv).toArray.setIfInBounds 33 (.string (strOfNums s)) = (({ c with who := s } : ComL).row pv).toArray) ∧
    (∀ k, (c.row pv).toArray.setIfInBounds 34 (.int .u64 k) = (({ c with time := k } : ComL).row pv).toArray) ∧ (∀ s, (c.row pv).toArray.setIfInBounds 35 (.string (strOfNums s)) = (({ c with text := s } : ComL).row pv).toArray) := by
  have hm : (c.tree.map (Value.int .u8)).length = 32 := by rw [List.length_map, hl]
  refine ⟨fun k _ => ?_, fun k => ?_, fun k => ?_, fun k => ?_⟩
  all_goals
    unfold ComL.row
    rw [List.setIfInBounds_toArray, List.set_append_right _ _ (by omega), hm]
    rfl
theorem com_len (c : ComL) (pv : Value) (hl : c.tree.length = 32) : (c.row pv).toArray.size = 36 := by simp [ComL.row, hl]
theorem com_one (c : ComL) (pv : Value) (hp : pv.oneCell' = true) : (c.row pv).toArray.all (·.oneCell') = true := all_oneCell_toArray fun v hv => by
  unfold ComL.row at hv
  rcases List.mem_append.1 hv with h | h
  · exact map_oneCell _ v h
  · simp at h
    rcases h with rfl | rfl | rfl | rfl
    · exact hp
    · rfl
    · rfl
    · rfl
theorem run_store_list (w : World) (b o : Nat) (cells : List Value) (ht : w.there b o cells.length) (h1 : ∀ v, v ∈ cells → v.oneCell' = true) : (storeCells ⟨b, o, none⟩ cells).run Tryz.prog w = .ok () (w.setCells b o cells) := by
  have := run_storeCells_cells (P := Tryz.prog) b o cells 0 w (fun j hj => by simpa using (ht j hj).1) (fun j hj => by simpa using (ht j hj).2) h1
  simpa [storeCells] using this
end Go.Proofs.YtddhhjgegkkjbaaGreatDoor
