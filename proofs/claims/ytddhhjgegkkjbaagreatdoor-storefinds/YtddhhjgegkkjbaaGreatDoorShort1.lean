/-
  The shortest beginning that tells an id from others; lists of ids in memory; the WALK of digest.Short.
-/
import Derived.Test.YtddhhjgegkkjbaaGreatDoorHex0
import Derived.Test.YtddhhjgegkkjbaaGreatDoorStep
import Derived.Lib.Bytes
import Derived.Deep.RegionLaw
import Derived.Deep.RegionWith
import Derived.Test.YtddhhjgegkkjbaaGreatDoorShort0
import Derived.Deep.WholeRow
import Derived.Laws.Strings2
namespace Go.Proofs.YtddhhjgegkkjbaaGreatDoor
open Go.RowKit

theorem str_take (l : List Int) (n : Nat) : (strOfNums l).extract 0 n = strOfNums (l.take n) := by
  unfold strOfNums
  rw [ByteArray.extract_mk, List.drop_zero, Nat.sub_zero, List.map_take]


theorem half_split (a b : List Int) : ∀ n, (∀ j, j < n → halfL a j = halfL b j) ∨ ∃ k, k < n ∧ (∀ j, j < k → halfL a j = halfL b j) ∧ halfL a k ≠ halfL b k := by
  intro n
  induction n with
  | zero => exact Or.inl fun j hj => by omega
  | succ n ih =>
    rcases ih with h | ⟨k, h1, h2, h3⟩
    · by_cases he : halfL a n = halfL b n
      · refine Or.inl fun j hj => ?_
        by_cases hjn : j = n
        · rw [hjn]; exact he
        · exact h j (by omega)
      · exact Or.inr ⟨n, by omega, h, he⟩
    · exact Or.inr ⟨k, by omega, h2, h3⟩
/-- The halves up to there are the same, and there they are not. -/
theorem comL_spec (a b : List Int) : comL a b ≤ 64 ∧ (∀ j, j < comL a b → halfL a j = halfL b j) ∧ (comL a b < 64 → halfL a (comL a b) ≠ halfL b (comL a b)) := by
  rcases half_split a b 64 with h | ⟨k, h1, h2, h3⟩
  · rw [comL_eq a b 64 (Nat.le_refl _) h (fun h => by omega)]
    exact ⟨Nat.le_refl _, h, fun h => by omega⟩
  · rw [comL_eq a b k (by omega) h2 (fun _ => h3)]
    exact ⟨by omega, h2, fun _ => h3⟩
theorem comL_lt (a b : List Int) (ha : GoodID a) (hb : GoodID b) (hne : a ≠ b) : comL a b < 64 := by
  obtain ⟨h1, h2, _⟩ := comL_spec a b
  rcases Nat.lt_or_ge (comL a b) 64 with h | h
  · exact h
  · refine absurd ?_ hne
    have e : hexL a = hexL b := by
      unfold hexL
      exact List.map_congr_left fun k hk => by rw [h2 k (by have := List.mem_range.1 hk; omega)]
    rw [← beg_hex a ha.1 ha.2, e, beg_hex b hb.1 hb.2]

def sizeL (ids : List (List Int)) (id : List Int) : Nat := ids.foldl (fun s o => if o = id then s else max s (comL o id + 1)) 4
theorem sizeL_succ (ids : List (List Int)) (id o : List Int) (k : Nat) (h : ids[k]? = some o) : sizeL (ids.take (k + 1)) id = if o = id then sizeL (ids.take k) id else max (sizeL (ids.take k) id) (comL o id + 1) := by
  have hlt : k < ids.length := (List.getElem?_eq_some_iff.1 h).1
  have ho : ids[k] = o := (List.getElem?_eq_some_iff.1 h).2
  unfold sizeL
  rw [List.take_succ_eq_append_getElem hlt, List.foldl_append, ho]
  rfl
theorem sizeL_fits (id : List Int) (hid : GoodID id) : ∀ ids : List (List Int), (∀ o, o ∈ ids → GoodID o) → 4 ≤ sizeL ids id ∧ sizeL ids id ≤ 64 := by
  have key : ∀ (ids : List (List Int)) (s : Nat), 4 ≤ s → s ≤ 64 → (∀ o, o ∈ ids → GoodID o) → 4 ≤ ids.foldl (fun s o => if o = id then s else max s (comL o id + 1)) s ∧ ids.foldl (fun s o => if o = id then s else max s (comL o id + 1)) s ≤ 64 := by
    intro ids
    induction ids with
    | nil => intro s h1 h2 _; exact ⟨h1, h2⟩
    | cons o r ih =>
      intro s h1 h2 hg
      have hg' : ∀ x, x ∈ r → GoodID x := fun x hx => hg x (by simp [hx])
      rw [List.foldl_cons]
      by_cases ho : o = id
      · rw [if_pos ho]; exact ih s h1 h2 hg'
      · rw [if_neg ho]
        have := comL_lt o id (hg o (by simp)) hid ho
        exact ih _ (by omega) (by omega) hg'
  intro ids hg
  exact key ids 4 (by omega) (by omega) hg

set_option maxRecDepth 100000 in
set_option maxHeartbeats 2000000 in
theorem Short_any (v : Value) (ids : List (List Int)) (id : List Int) (w : World) (hv : IdsAt w v ids) (hg : ∀ o, o ∈ ids → GoodID o) (hid : GoodID id) :
    Calls Tryz.prog 15 #[v, .agg (idC id)] w fun e w' => e = .returned (.string (strOfNums ((hexL id).take (sizeL ids id)))) ∧ Kept [] w w' := by
  have hsz : (Tryz.prog.info? 36).map (·.size) = some (idC id).size := by rw [idC_size hid.1]; exact Tryz.infoID
  have HB : Hid ((w.alloc (.cells (idC id) 36)).heap[w.heap.size]? = some (.cells (idC id) 36 (0, 0))) := heap_alloc_new w _
  have hhex := fun W => Hex_any id W hid.1 hid.2
  have HV : Hid (∀ W, Kept [] w W → IdsAt W v ids) := fun W k => hv.keep k (fun _ _ _ => by simp)
  have HG : Hid (∀ o, o ∈ ids → GoodID o) := hg
  have HD : Hid (GoodID id) := hid
  obtain ⟨ao, cap, rfl, hcap, _, hlen, _⟩ := hv
  clear hg hid
  go_enter Tryz.func15, Tryz.ntmps15
  go_wp2
  go_loopw [5, 7, 10] (fun s5 _ s10 wr => ∃ k : Nat, k ≤ ids.length ∧ s10 = .int .i64 k ∧ s5 = .int .i64 (sizeL (ids.take k) id) ∧ Hid (wr.heap[w.heap.size]? = some (.cells (idC id) 36 (0, 0))) ∧ Kept [] w wr) (fun _ _ s10 _ => ids.length - (intOf s10).toNat)
  case atStart => exact ⟨0, Nat.zero_le _, rfl, rfl, HB, (Kept.refl _ _).alloc _⟩
  case round =>
    obtain ⟨k, hk, rfl, rfl, H0, hkw⟩ := hrel
    by_cases hlt : k < ids.length
    · obtain ⟨o, ho⟩ : ∃ o, ids[k]? = some o := ⟨_, List.getElem?_eq_getElem hlt⟩
      have hgo := HG.out o (List.mem_of_getElem? ho)
      obtain ⟨ao', cap', he, _, _, _, hc⟩ := HV.out wr hkw
      injection he with e1 e2 e3
      subst e1 e3
      obtain ⟨b, off, rfl, hh⟩ := hc (by rintro rfl; simp at hlt)
      have hr := hh k o ho
      have hso : (Tryz.prog.info? 36).map (·.size) = some (o.map (Value.int .u8)).length := by rw [List.length_map, hgo.1]; exact Tryz.infoID
      have hsoc : (Tryz.prog.info? 36).map (·.size) = some (idC o).size := by rw [idC_size hgo.1]; exact Tryz.infoID
      have hao : (idC o).all (·.oneCell') = true := all_oneCell_toArray (map_oneCell _)
      have ho32 : (idC o).size = 32 := idC_size hgo.1
      have hoc : (o.map (Value.int .u8)).toArray = idC o := rfl
      have heqf : ∀ W, (Op.equalIn 10000 36 (.agg (idC o)) (.agg (idC id))).run Tryz.prog W = .ok (decide (o = id)) W := fun W => idEq o id W hgo.1 HD.out.1
      have hcom := fun W => common_any o id W hgo.1 hgo.2 HD.out.1 HD.out.2
      have HSS : Hid _ := sizeL_succ ids id o k ho
      have hb0 := lt_of_block H0.out
      have hs4 : sizeL (ids.take k) id ≤ 64 := (sizeL_fits id HD.out (ids.take k) fun x hx => HG.out x (List.mem_of_mem_take hx)).2
      have hco := (comL_spec o id).1
      have HEQ : Hid (o = id ∨ o ≠ id) := Classical.em _
      clear hh hc ho
      rcases HEQ.out with he | he
      · have hd : decide (o = id) = true := decide_eq_true he
        rw [hd] at heqf
        have HS2 : Hid (sizeL (ids.take (k + 1)) id = sizeL (ids.take k) id) := by
          have h := HSS.out
          rw [if_pos he] at h
          exact h
        clear hcom hd he HEQ hgo HSS
        generalize sizeL (ids.take k) id = sk at *
        generalize idC o = oc at *
        generalize idC id = ic at *
        go_wp2_with (first
          | (refine wpList_load_mid (by rfl) 36 (.tmp 12) (by rfl) b (off + k * 32) (by rfl) (o.map (Value.int .u8)) _ hr Tryz.underlying36 rfl hso ?_; rw [hoc])
          | (refine wpList_store_row (by rfl) 36 (.tmp 7) (.tmp 13) (by rfl) wr.heap.size oc (by rfl) (by rfl) 36 _ (heap_alloc_new wr _) hsoc ho32.symm hao ?_; rw [World.setRow_alloc_new]
             have H1 : Hid ((wr.alloc (.cells oc 36)).heap[w.heap.size]? = some (.cells ic 36 (0, 0))) := (Below.heap_alloc _ _ _ hb0).trans H0.out)
          | (refine wpList_load_row (by rfl) 36 (.tmp 7) (by rfl) wr.heap.size (by rfl) 36 oc (0, 0) _ (heap_alloc_new wr _) Tryz.underlying36 rfl hsoc ?_)
          | (refine wpList_load_row (by rfl) 36 (.tmp 3) (by rfl) w.heap.size (by rfl) 36 ic (0, 0) _ H1.out Tryz.underlying36 rfl hsz ?_))
        go_roundw
        case rel => exact ⟨k + 1, by omega, by go_num, by rw [HS2.out], H1, hkw.alloc _⟩
        case measure => simp [intOf]; omega
      · have hd : decide (o = id) = false := decide_eq_false he
        rw [hd] at heqf
        have HS2 : Hid (sizeL (ids.take (k + 1)) id = max (sizeL (ids.take k) id) (comL o id + 1)) := by
          have h := HSS.out
          rw [if_neg he] at h
          exact h
        clear hd he HEQ hgo HSS
        generalize sizeL (ids.take k) id = sk at *
        generalize comL o id = ck at *
        generalize idC o = oc at *
        generalize idC id = ic at *
        go_wp2_with (first
          | (refine wpList_load_mid (by rfl) 36 (.tmp 12) (by rfl) b (off + k * 32) (by rfl) (o.map (Value.int .u8)) _ hr Tryz.underlying36 rfl hso ?_; rw [hoc])
          | (refine wpList_store_row (by rfl) 36 (.tmp 7) (.tmp 13) (by rfl) wr.heap.size oc (by rfl) (by rfl) 36 _ (heap_alloc_new wr _) hsoc ho32.symm hao ?_; rw [World.setRow_alloc_new]
             have H1 : Hid ((wr.alloc (.cells oc 36)).heap[w.heap.size]? = some (.cells ic 36 (0, 0))) := (Below.heap_alloc _ _ _ hb0).trans H0.out)
          | (refine wpList_load_row (by rfl) 36 (.tmp 7) (by rfl) wr.heap.size (by rfl) 36 oc (0, 0) _ (heap_alloc_new wr _) Tryz.underlying36 rfl hsoc ?_)
          | (refine wpList_load_row (by rfl) 36 (.tmp 3) (by rfl) w.heap.size (by rfl) 36 ic (0, 0) _ H1.out Tryz.underlying36 rfl hsz ?_)
          | (go_at_call 30; refine (hcom _).mono ?_; rintro e w2 ⟨rfl, hk2⟩
             have H2 : Hid (w2.heap[w.heap.size]? = some (.cells ic 36 (0, 0))) := hk2.heap H1.out (by simp)
             have HK2 : Hid (Kept [] w w2) := (hkw.alloc _).then hk2
             clear hk2))
        go_roundw
        case rel => exact ⟨k + 1, by omega, by go_num, by rw [HS2.out]; congr 1; omega, H2, HK2.out⟩
        case measure => simp [intOf]; omega
    · obtain rfl : k = ids.length := by omega
      rw [List.take_length]
      obtain ⟨hf1, hf2⟩ := sizeL_fits id HD.out ids HG.out
      have hhs : (strOfNums (hexL id)).size = 64 := by rw [strOfNums_size, hexL_len]
      obtain ⟨sz, hsz'⟩ : ∃ sz, sizeL ids id = sz := ⟨_, rfl⟩
      have HSZ : Hid (sizeL ids id = sz) := hsz'
      rw [hsz'] at hf1 hf2 ⊢
      clear hsz'
      generalize idC id = ic at *
      go_wp2_with (first
        | (refine wpList_load_row (by rfl) 36 (.tmp 3) (by rfl) w.heap.size (by rfl) 36 ic (0, 0) _ H0.out Tryz.underlying36 rfl hsz ?_)
        | (go_at_call 14; refine (hhex _).mono ?_; rintro e w2 ⟨rfl, hk2⟩
           have HK2 : Hid (Kept [] w w2) := hkw.then hk2
           clear hk2))
      go_ret
      refine ⟨?_, HK2.out⟩
      rw [HSZ.out, ← str_take]
      rfl
end Go.Proofs.YtddhhjgegkkjbaaGreatDoor
