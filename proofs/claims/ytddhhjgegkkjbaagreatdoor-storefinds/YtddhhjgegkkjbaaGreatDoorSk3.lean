/-
  WALKS: object.Id; bytes.Equal, bytes.Clone; store.New, Len, Has.
  WALKS: bytes.Equal, bytes.Clone; (*store.Store).Get, Remove; satchellaw4.num, into.
-/
import Derived.Test.YtddhhjgegkkjbaaGreatDoorRw0
import Derived.Test.YtddhhjgegkkjbaaGreatDoorSha8
import Derived.Test.YtddhhjgegkkjbaaGreatDoorPb0
import Derived.Test.YtddhhjgegkkjbaaGreatDoorIdEq
import Derived.Test.YtddhhjgegkkjbaaGreatDoorStep
namespace Go.Proofs.YtddhhjgegkkjbaaGreatDoor
open Go.RowKit Go.WideMaps

set_option maxRecDepth 100000 in
set_option maxHeartbeats 1000000 in
theorem Id_any (v : Value) (xs : List Int) (w : World) (hV : Vars w) (hx : BytesAt w v xs) (ho : Octs xs) (hn : xs.length ≤ 140737488355328) : Calls Tryz.prog 9 #[v] w fun e w' => e = .returned (.agg (idC (digL xs))) ∧ Kept [] w w' := by
  obtain ⟨ic, hic⟩ : ∃ ic, ic = idC (digL xs) := ⟨_, rfl⟩
  have hszi : (Tryz.prog.info? 36).map (·.size) = some ic.size := by rw [hic, idC_size (digL_len xs)]; exact Tryz.infoID
  have halli : ic.all (·.oneCell') = true := by rw [hic]; exact all_oneCell_toArray (map_oneCell _)
  have hosi : (idC zid).size = ic.size := by rw [hic, idC_size (digL_len xs)]; rfl
  have HI : Hid (ic = idC (digL xs)) := hic
  have kA : Kept [] w (w.alloc (.cells (idC zid) 36)) := (Kept.refl _ _).alloc _
  have hs : Calls Tryz.prog 27 #[v] (w.alloc (.cells (idC zid) 36)) fun e w' => e = .returned (.agg ic) ∧ Kept [] (w.alloc (.cells (idC zid) 36)) w' := by
    rw [hic]
    exact Sum_any _ v xs (hV.kept kA (by simp) (by simp)) (hx.kept kA (fun _ _ => by simp)) ho hn
  have HKA : Hid (Kept [] w (w.alloc (.cells (idC zid) 36))) := kA
  have HI0 : Hid ((w.alloc (.cells (idC zid) 36)).heap[w.heap.size]? = some (.cells (idC zid) 36 (0, 0))) := heap_alloc_new w _
  obtain ⟨ao, cap, rfl, _⟩ := hx
  clear hV ho hn hic kA
  go_enter Tryz.func9, Tryz.ntmps9
  go_wp2_with (first
    | (go_at_call 27; refine hs.mono ?_; rintro e w3 ⟨rfl, hk3⟩
       have HI3 : Hid (w3.heap[w.heap.size]? = some (.cells (idC zid) 36 (0, 0))) := hk3.heap HI0.out (by simp)
       have HK3 : Hid (Kept [] w w3) := HKA.out.then hk3
       clear hk3)
    | (refine wpList_store_row rfl 36 (.tmp 2) (.tmp 4) rfl w.heap.size ic rfl rfl 36 _ HI3.out hszi hosi halli ?_))
  refine bodyPost_ret (v := .agg ic) ?_ rfl ⟨by rw [HI.out], kept_setRow HK3.out (Nat.le_refl _) _⟩
  rw [results_cell rfl]
  have hld := run_loadVar_row (P := Tryz.prog) (w3.setRow w.heap.size ic) w.heap.size 36 36 ic (0, 0) _ (setRow_heap _ _ _ _ _ _ HI3.out) Tryz.underlying36 rfl hszi
  exact hld

theorem row_rangeS {w : World} {b : Nat} {cs : List Value} {t : TypeId} {fr : Nat × Nat} (h : w.heap[b]? = some (.cells cs.toArray t fr)) : w.rangeAt b 0 cs := fun j v hj => by
  rw [cell_of_row _ _ _ _ _ _ h, Nat.zero_add, List.getElem?_toArray]; exact hj
/-- What a new variable with an entry in it holds. -/
theorem slR_inj {v v' : Value} {z : DataW Unit × List MemPlace} (h : slR v = some z) (h' : slR v' = some z) : v = v' := by
  unfold slR at h
  split at h
  · injection h with h
    subst h
    exact (slR_inv h').symm
  · injection h with h
    subst h
    unfold slR at h'
    split at h'
    · simp [slD] at h'
    · rfl
    · cases h'
  · cases h
section
variable {w : World} {s b n : Nat} {D : DataW Unit}
/-- The lookup of an id, wherever the store is as it was. -/
theorem St.lookAll (h : St w s b n D) {id : List Int} (hid : GoodID id) : ∃ v, (∀ W, Kept [] w W → (Instr.lookup 69 (.map (some b)) (.agg (idC id)) true).run Tryz.prog W = .ok (.tuple #[v, .bool (Maps.has D (idKey id))]) W) ∧
    slR v = some (D.atKey (idKey id) .nil, []) := by
  have key : ∀ W, Kept [] w W → ∃ v ps, (Instr.lookup 69 (.map (some b)) (.agg (idC id)) true).run Tryz.prog W = .ok (.tuple #[v, .bool (Maps.has D (idKey id))]) W ∧ slR v = some (D.atKey (idKey id) .nil, ps) := fun W k => (h.on k).own.look_ok Tryz.keyId Tryz.underlying69 (Tryz.zeroB W) slR_nil (key_id hid)
  have hps : ∀ v ps d, slR v = some (d, ps) → ps = [] := fun v ps d h => by
    unfold slR at h
    split at h
    · injection h with h; injection h with _ h; exact h.symm
    · injection h with h; injection h with _ h; exact h.symm
    · cases h
  obtain ⟨v, ps, _, hv⟩ := key w (Kept.refl _ _)
  obtain rfl := hps _ _ _ hv
  refine ⟨v, fun W k => ?_, hv⟩
  obtain ⟨v', ps', hr, hv'⟩ := key W k
  obtain rfl := hps _ _ _ hv'
  rw [slR_inj hv hv']
  exact hr
theorem slR_form {v : Value} {z : DataW Unit × List MemPlace} (h : slR v = some z) : ∃ ao m c, v = .slice ao m c := by
  unfold slR at h
  split at h
  · exact ⟨_, _, _, rfl⟩
  · exact ⟨_, _, _, rfl⟩
  · cases h

set_option maxRecDepth 100000 in
set_option maxHeartbeats 2000000 in
theorem New_st (w : World) : Calls Tryz.prog 18 #[] w fun e w' => ∃ s b, e = .returned (.pointer (some ⟨s, 0, none⟩)) ∧ St w' s b 0 (.map []) ∧ w.heap.size ≤ s ∧ w.heap.size ≤ b ∧ Kept [] w w' := by
  have HF : Hid (St ((w.alloc (.map #[] 0)).alloc (.cells #[.map (some w.heap.size)] 71)) (w.heap.size + 1) w.heap.size 0 (.map [])) := by
    have e : (w.alloc (.map #[] 0)).heap.size = w.heap.size + 1 := World.size_alloc _ _
    have h := heap_alloc_new (w.alloc (.map #[] 0)) (.cells #[.map (some w.heap.size)] 71)
    rw [e] at h
    exact ⟨h, (World.ownsMap_made w Tryz.prog 36 slR).alloc _, by omega, fun kl hk => by (cases hk)⟩
  have HK : Hid (Kept [] w ((w.alloc (.map #[] 0)).alloc (.cells #[.map (some w.heap.size)] 71))) := ((Kept.refl _ _).alloc _).alloc _
  have hmm : ∀ W : World, (Instr.makeMap 69 none).run Tryz.prog W = .ok (.map (some W.heap.size)) (W.alloc (.map #[] 0)) := fun W => by kernel_rfl
  go_enter Tryz.func18, Tryz.ntmps18
  go_wp2
  go_ret
  exact ⟨w.heap.size + 1, w.heap.size, rfl, HF.out, by omega, by omega, HK.out⟩
theorem Len_st (h : St w s b n D) : Calls Tryz.prog 22 #[.pointer (some ⟨s, 0, none⟩)] w fun e w' => e = .returned (.int .i64 (Maps.size D)) ∧ w' = w := by
  have hl := fun ty => h.own.len (t := 69) Tryz.underlying69 ty
  have c0 : w.cell? ⟨s, 0, none⟩ = some (.map (some b)) := by rw [cell_of_row _ _ _ _ _ _ h.blk]; rfl
  clear h
  go_enter Tryz.func22, Tryz.ntmps22
  go_wp2
  go_ret
  exact ⟨rfl, rfl⟩
set_option maxRecDepth 100000 in
set_option maxHeartbeats 2000000 in
theorem Has_st (h : St w s b n D) {id : List Int} (hid : GoodID id) : Calls Tryz.prog 21 #[.pointer (some ⟨s, 0, none⟩), .agg (idC id)] w fun e w' => e = .returned (.bool (Maps.has D (idKey id))) ∧ Kept [] w w' := by
  obtain ⟨v, hlk, hv⟩ := h.lookAll hid
  obtain ⟨ao, m, c, rfl⟩ := slR_form hv
  obtain ⟨W0, hW0⟩ : ∃ W0, W0 = w.alloc (.cells (idC id) 36) := ⟨_, rfl⟩
  have HW0 : Hid (W0 = w.alloc (.cells (idC id) 36)) := hW0
  have k0 : Kept [] w W0 := by rw [hW0]; exact (Kept.refl _ _).alloc _
  have HK0 : Hid (Kept [] w W0) := k0
  have HL : Hid (∀ W, Kept [] W0 W → (Instr.lookup 69 (.map (some b)) (.agg (idC id)) true).run Tryz.prog W = .ok (.tuple #[.slice ao m c, .bool (Maps.has D (idKey id))]) W) := fun W k => hlk W (k0.then k)
  have HB : Hid (∀ W, Kept [] W0 W → W.cell? ⟨s, 0, none⟩ = some (.map (some b))) := fun W k => by rw [cell_of_row _ _ _ _ _ _ ((k0.then k).heap h.blk (by simp))]; rfl
  have HR : Hid (∀ W, Kept [] W0 W → W.rangeAt w.heap.size 0 (id.map (Value.int .u8))) := fun W k => by
    have h1 : W.heap[w.heap.size]? = some (.cells (id.map (Value.int .u8)).toArray 36 (0, 0)) := k.heap (show W0.heap[w.heap.size]? = _ by rw [hW0]; exact heap_alloc_new w _) (by simp)
    exact row_rangeS h1
  have hui := Tryz.underlying36
  have hso : (Tryz.prog.info? 36).map (·.size) = some (id.map (Value.int .u8)).length := by rw [List.length_map, hid.1]; exact Tryz.infoID
  have hidc : idC id = (id.map (Value.int .u8)).toArray := rfl
  have hsz32 : (idC id).size = 32 := idC_size hid.1
  rw [hidc] at HL HW0 hsz32 ⊢
  clear h hlk hv hid k0 hW0 hidc
  generalize Maps.has D (idKey id) = r at *
  generalize id.map (Value.int .u8) = R at *
  go_enter Tryz.func21, Tryz.ntmps21
  go_wp2_with fail
  rw [← HW0.out]
  refine region_quiet (Kept [] W0) (by kernel_rfl) (by kernel_rfl) (Kept.refl [] W0).drew ?_
  refine quiet_move (by rfl) (.tmp 0) rfl (.pointer (some ⟨s, 0, none⟩)) rfl ?_
  simp only [Act.put, List.setIfInBounds_toArray, List.set_cons_zero, List.set_cons_succ]
  refine quiet_val (by rfl) (.pointer (some ⟨s, 0, none⟩)) (fun W => by go_simp) ?_
  simp only [Act.put, List.setIfInBounds_toArray, List.set_cons_zero, List.set_cons_succ]
  refine quiet_val (by rfl) (.pointer (some ⟨s, 0, none⟩)) (fun W => by go_simp) ?_
  simp only [Act.put, List.setIfInBounds_toArray, List.set_cons_zero, List.set_cons_succ]
  refine valC (by rfl) (.map (some b)) (fun W hW => by have hcc := HB.out W hW; go_simp) ?_
  simp only [Act.put, List.setIfInBounds_toArray, List.set_cons_zero, List.set_cons_succ]
  refine quiet_row (by rfl) _ _ rfl w.heap.size 0 rfl R _ HR.out hui rfl hso ?_
  simp only [Act.put, List.setIfInBounds_toArray, List.set_cons_zero, List.set_cons_succ]
  refine valC (by rfl) (.tuple #[.slice ao m c, .bool r]) (fun W hW => by have hcc := HL.out W hW; go_simp) ?_
  simp only [Act.put, List.setIfInBounds_toArray, List.set_cons_zero, List.set_cons_succ]
  refine quiet_move (by rfl) (.tmp 13) rfl (.tuple #[.slice ao m c, .bool r]) rfl ?_
  simp only [Act.put, List.setIfInBounds_toArray, List.set_cons_zero, List.set_cons_succ]
  refine quiet_val (by rfl) (.slice ao m c) (fun W => by go_simp) ?_
  simp only [Act.put, List.setIfInBounds_toArray, List.set_cons_zero, List.set_cons_succ]
  refine quiet_val (by rfl) (.bool r) (fun W => by go_simp) ?_
  simp only [Act.put, List.setIfInBounds_toArray, List.set_cons_zero, List.set_cons_succ]
  refine quiet_assign (by rfl) (.tmp 14) rfl (.slice ao m c) rfl ?_
  simp only [Act.put, List.setIfInBounds_toArray, List.set_cons_zero, List.set_cons_succ]
  refine quiet_assign (by rfl) (.tmp 15) rfl (.bool r) rfl ?_
  simp only [Act.put, List.setIfInBounds_toArray, List.set_cons_zero, List.set_cons_succ]
  refine wpQuiet_nil fun w3 hk3 => ?_
  have HK3 : Hid (Kept [] w w3) := HK0.out.then hk3
  clear hk3
  go_wp2
  go_ret
  exact ⟨rfl, HK3.out⟩
end
end Go.Proofs.YtddhhjgegkkjbaaGreatDoor

namespace Go.Proofs.YtddhhjgegkkjbaaGreatDoor
open Go.RowKit Go.WideMaps

theorem own_rowS {w : World} {g : Nat} {ys : List Int} (h : w.heap[g]? = some (.cells (ys.map (Value.int .u8)).toArray 5 (0, 0))) (hm : ys.length ≤ 140737488355328) : OwnB w g (.slice (some ⟨g, 0, none⟩) ys.length ys.length) ys :=
  ⟨by simp, Or.inr ⟨g, ys.length, _, rfl, Nat.le_refl _, h, Nat.le_refl _, by unfold maxLen; omega, by simp, by rw [Nat.mul_one]; exact List.take_of_length_le (by simp)⟩⟩
theorem Equal_any (u v : Value) (us vs : List Int) (w : World) (hu : BytesAt w u us) (hv : BytesAt w v vs) :
    Calls Tryz.prog 28 #[u, v] w fun e w' => (∃ r, e = .returned (.bool r)) ∧ w' = w := by
  have h1 := hu.conv
  have h2 := hv.conv
  obtain ⟨ao, ca, rfl, _⟩ := hu
  obtain ⟨bo, cb, rfl, _⟩ := hv
  generalize strOfNums us = S1 at *
  generalize strOfNums vs = S2 at *
  obtain ⟨r, hr⟩ : ∃ r, (S1.toList == S2.toList) = r := ⟨_, rfl⟩
  go_enter Tryz.func28, Tryz.ntmps28
  go_wp2
  go_ret
  exact ⟨⟨_, rfl⟩, rfl⟩
set_option maxRecDepth 100000 in
set_option maxHeartbeats 2000000 in
theorem Clone_own (a : Addr) (cap : Nat) (xs : List Int) (w : World) (hv : BytesAt w (.slice (some a) xs.length cap) xs) (hne : xs ≠ []) (hl : xs.length ≤ 1000000) :
    Calls Tryz.prog 26 #[.slice (some a) xs.length cap] w fun e w' => ∃ g c, e = .returned (.slice (some ⟨g, 0, none⟩) xs.length c) ∧ OwnB w' w.heap.size (.slice (some ⟨g, 0, none⟩) xs.length c) xs ∧ w.heap.size ≤ g ∧ Kept [] w w' := by
  have hb : ∀ W n c, (binOp .eql 37 (.slice (some a) n c) (.slice none 0 0)).run Tryz.prog W = .ok (.bool false) W := fun W n c => by kernel_rfl
  have hbs : ∀ W : World, (Instr.buildSlice 37 0 #[]).run Tryz.prog W = .ok (.slice (some ⟨W.heap.size, 0, none⟩) 0 0) (W.alloc (.cells #[] 5)) := fun W => by kernel_rfl
  have k0 : Kept [] w (w.alloc (.cells #[] 5)) := (Kept.refl _ _).alloc _
  have HO : Hid (OwnB (w.alloc (.cells #[] 5)) w.heap.size (.slice (some ⟨w.heap.size, 0, none⟩) 0 0) []) := own_rowS (ys := []) (heap_alloc_new w _) (by decide)
  have HX : Hid (BytesAt (w.alloc (.cells #[] 5)) (.slice (some a) xs.length cap) xs) := hv.kept' k0 (fun _ _ _ => by simp)
  have HK0 : Hid (Kept [] w (w.alloc (.cells #[] 5))) := k0
  have ly : ([] : List Int).length + xs.length ≤ 140737488355328 := by simp; omega
  have hb5 : w.heap.size ≤ (w.alloc (.cells #[] 5)).heap.size := by rw [World.size_alloc]; omega
  have HNE : Hid (xs ≠ []) := hne
  clear hv k0 hne
  go_enter Tryz.func26, Tryz.ntmps26
  go_wp2_with (first
    | (at_builtin; refine wpList_append_bytes (by rfl) (.tmp 5) (.tmp 6) (by rfl) (by rfl) HO.out (by rfl) HX.out ly hb5 ?_; intro v6 w6 ha6
       have ho6 : OwnB w6 w.heap.size v6 xs := by have e := ha6.own; rw [List.nil_append] at e; exact e
       have HK6 : Hid (Kept [] w w6) := ha6.keep w [] HK0.out (fun x hx => Or.inr (World.ownsRow.lt HO.out x hx).1)
       have HN6 : Hid (∀ k, v6.ownBlock = some k → w.heap.size ≤ k) := fun k hk => (World.ownsRow.lt ho6 k hk).1
       have HB6 : Hid (OwnB w6 w.heap.size v6 xs) := ho6
       have HS6 : Hid (∃ g c, v6 = .slice (some ⟨g, 0, none⟩) xs.length c) := by
         obtain ⟨_, ⟨rfl, h0⟩ | ⟨g, cap, cur, rfl, _⟩⟩ := ho6
         · exact absurd (List.eq_nil_of_length_eq_zero h0) HNE.out
         · exact ⟨g, cap, rfl⟩
       clear ha6 ho6))
  obtain ⟨g, c, rfl⟩ := HS6.out
  go_ret
  exact ⟨g, c, rfl, HB6.out, HN6.out g rfl, HK6.out⟩
theorem Clone_any (a : Addr) (cap : Nat) (xs : List Int) (w : World) (hv : BytesAt w (.slice (some a) xs.length cap) xs) (hne : xs ≠ []) (hl : xs.length ≤ 1000000) :
    Calls Tryz.prog 26 #[.slice (some a) xs.length cap] w fun e w' => ∃ g c, e = .returned (.slice (some ⟨g, 0, none⟩) xs.length c) ∧ BytesAt w' (.slice (some ⟨g, 0, none⟩) xs.length c) xs ∧ w.heap.size ≤ g ∧ Kept [] w w' :=
  (Clone_own a cap xs w hv hne hl).mono fun _ _ ⟨g, c, h1, h2, h3, h4⟩ => ⟨g, c, h1, h2.bytes, h3, h4⟩
theorem num4_any (n : Int) (w : World) : Calls Tryz.prog 17 #[.int .i64 n] w fun e w' => e = .returned (.int .i64 n) ∧ w' = w := by
  go_enter Tryz.func17, Tryz.ntmps17
  go_wp2
  go_ret
  exact ⟨rfl, rfl⟩
theorem into4_any (n m : Int) (w : World) (hm : 1 ≤ m) (hm1 : m ≤ 140737488355328) (h0 : -9223372036854775808 ≤ n) (h1 : n ≤ 9223372036854775807) : Calls Tryz.prog 8 #[.int .i64 n, .int .i64 m] w fun e w' => e = .returned (.int .i64 (n % m)) ∧ w' = w := by
  by_cases hn : 0 ≤ n
  · go_enter Tryz.func8, Tryz.ntmps8
    have hp : 0 ≤ n % m := Int.emod_nonneg n (by omega)
    go_wp2
    go_ret
    exact ⟨rfl, rfl⟩
  · have ht : n.tmod m = if n % m = 0 then 0 else n % m - m := by
      rw [Int.tmod_eq_emod]
      have h2 : ¬ (0 ≤ n) := hn
      by_cases hz : n % m = 0
      · rw [if_pos (Or.inr (Int.dvd_of_emod_eq_zero hz)), if_pos hz, hz]; rfl
      · rw [if_neg (by rintro (h | h); · exact hn h
                       · exact hz (Int.emod_eq_zero_of_dvd h)), if_neg hz]
        omega
    have hp : 0 ≤ n % m := Int.emod_nonneg n (by omega)
    have hq : n % m < m := Int.emod_lt_of_pos n (by omega)
    obtain ⟨k, hk⟩ : ∃ k, k = n % m := ⟨_, rfl⟩
    rw [← hk] at ht hp hq ⊢
    by_cases hz : k = 0
    · rw [if_pos hz] at ht
      subst hz
      clear hk
      go_enter Tryz.func8, Tryz.ntmps8
      go_wp2
      go_ret
      exact ⟨rfl, rfl⟩
    · rw [if_neg hz] at ht
      clear hk
      go_enter Tryz.func8, Tryz.ntmps8
      go_wp2
      go_ret
      exact ⟨by simp, rfl⟩
end Go.Proofs.YtddhhjgegkkjbaaGreatDoor
