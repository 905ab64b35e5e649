/-
  WALKS: (*store.Store).Get of an id that is not there; Kind and Children of one that is.
  WALK: satchellaw4.sameLinks, of two lists that tell the same.
  WALK: satchelref0.CmpID: which of two ids is first.
  ASKS OPENED: what a reading of them says of memory.
  WALK: an Ask for the children, against the document's.
-/
import Derived.Test.YtbphibolgckmnaaGreatDoorSk6
import Derived.Test.YtbphibolgckmnaaGreatDoorLk4
import Derived.Test.YtbphibolgckmnaaGreatDoorCmpZ
import Derived.Test.YtbphibolgckmnaaGreatDoorIds1
import Derived.Test.YtbphibolgckmnaaGreatDoorLookFixed
import Derived.Test.YtbphibolgckmnaaGreatDoorGs3
import Derived.Test.YtbphibolgckmnaaGreatDoorLk0
import Derived.Test.YtbphibolgckmnaaGreatDoorGp4
import Derived.Test.YtbphibolgckmnaaGreatDoorEnt2
import Derived.Laws.StructEq
import Derived.Test.YtbphibolgckmnaaGreatDoorSoK
import Derived.Test.YtbphibolgckmnaaGreatDoorTag2
import Derived.Test.YtbphibolgckmnaaGreatDoorCom3
import Derived.Test.YtbphibolgckmnaaGreatDoorPar1
import Derived.Lib.Bytes
import Derived.Laws.IdiomStrings
import Derived.Deep.RegionHeld
import Derived.Test.YtbphibolgckmnaaGreatDoorGp2
import Derived.Deep.QuietTactic
import Derived.Test.YtbphibolgckmnaaGreatDoorSha2
namespace Go.Proofs.YtbphibolgckmnaaGreatDoor
open Go.RowKit Go.WideMaps
section
variable {w : World} {s b n : Nat} {D : DataW Unit}
set_option maxRecDepth 100000 in
set_option maxHeartbeats 4000000 in
theorem Get_none (h : St w s b n D) {id : List Int} (hid : GoodID id) (hy : Maps.has D (idKey id) = false) :
    Calls Tryz.prog 15 #[.pointer (some ⟨s, 0, none⟩), .agg (idC id)] w fun e w' => e = .returned (.tuple #[.slice none 0 0, .int .i64 41]) ∧ Kept [] w w' := by
  obtain ⟨v, hlk, hv⟩ := h.lookAll hid
  rw [Maps.atKey_of_not_has hy] at hv
  obtain rfl : v = .slice none 0 0 := by
    unfold slR at hv
    split at hv
    · simp [slD] at hv
    · rfl
    · cases hv
  rw [hy] at hlk
  obtain ⟨W0, hW0⟩ : ∃ W0, W0 = w.alloc (.cells (idC id) 29) := ⟨_, rfl⟩
  have HW0 : Hid (W0 = w.alloc (.cells (idC id) 29)) := hW0
  have k0 : Kept [] w W0 := by rw [hW0]; exact (Kept.refl _ _).alloc _
  have HK0 : Hid (Kept [] w W0) := k0
  have HL : Hid (∀ W, Kept [] W0 W → (Instr.lookup 68 (.map (some b)) (.agg (idC id)) true).run Tryz.prog W = .ok (.tuple #[.slice none 0 0, .bool false]) W) := fun W k => hlk W (k0.then k)
  have HB : Hid (∀ W, Kept [] W0 W → W.cell? ⟨s, 0, none⟩ = some (.map (some b))) := fun W k => by rw [cell_of_row _ _ _ _ _ _ ((k0.then k).heap h.blk (by simp))]; rfl
  have HR : Hid (∀ W, Kept [] W0 W → W.rangeAt w.heap.size 0 (id.map (Value.int .u8))) := fun W k => by
    have h1 : W.heap[w.heap.size]? = some (.cells (id.map (Value.int .u8)).toArray 29 (0, 0)) := k.heap (show W0.heap[w.heap.size]? = _ by rw [hW0]; exact heap_alloc_new w _) (by simp)
    exact row_rangeS h1
  have hui := Tryz.underlying29
  have hso : (Tryz.prog.info? 29).map (·.size) = some (id.map (Value.int .u8)).length := by rw [List.length_map, hid.1]; exact Tryz.infoID
  have hidc : idC id = (id.map (Value.int .u8)).toArray := rfl
  have hsz32 : (idC id).size = 32 := idC_size hid.1
  rw [hidc] at HL HW0 hsz32 ⊢
  clear h hlk hv hid k0 hW0 hidc hy
  generalize id.map (Value.int .u8) = R at *
  go_enter Tryz.func15, Tryz.ntmps15
  go_wp2_with fail
  rw [← HW0.out]
  refine region_quiet (Kept [] W0) (by kernel_rfl) (by kernel_rfl) (Kept.refl [] W0).drew ?_
  refine quiet_move (by rfl) (.tmp 0) rfl (.pointer (some ⟨s, 0, none⟩)) rfl ?_
  simp only [Act.put, List.setIfInBounds_toArray, List.set_cons_zero, List.set_cons_succ]
  refine quiet_val (by rfl) (.pointer (some ⟨s, 0, none⟩)) (fun W => by go_simp) ?_
  simp only [Act.put, List.setIfInBounds_toArray, List.set_cons_zero, List.set_cons_succ]
  refine quiet_val (by rfl) (.pointer (some ⟨s, 0, none⟩)) (fun W => by go_simp) ?_
  simp only [Act.put, List.setIfInBounds_toArray, List.set_cons_zero, List.set_cons_succ]
  refine valC (by rfl) (.map (some b)) (fun W hW => by have hcc := HB.out W hW; go_simp) ?_
  simp only [Act.put, List.setIfInBounds_toArray, List.set_cons_zero, List.set_cons_succ]
  refine quiet_row (by rfl) _ _ rfl w.heap.size 0 rfl R _ HR.out hui rfl hso ?_
  simp only [Act.put, List.setIfInBounds_toArray, List.set_cons_zero, List.set_cons_succ]
  refine valC (by rfl) (.tuple #[.slice none 0 0, .bool false]) (fun W hW => by have hcc := HL.out W hW; go_simp) ?_
  simp only [Act.put, List.setIfInBounds_toArray, List.set_cons_zero, List.set_cons_succ]
  refine quiet_move (by rfl) (.tmp 14) rfl (.tuple #[.slice none 0 0, .bool false]) rfl ?_
  simp only [Act.put, List.setIfInBounds_toArray, List.set_cons_zero, List.set_cons_succ]
  refine quiet_val (by rfl) (.slice none 0 0) (fun W => by go_simp) ?_
  simp only [Act.put, List.setIfInBounds_toArray, List.set_cons_zero, List.set_cons_succ]
  refine quiet_val (by rfl) (.bool false) (fun W => by go_simp) ?_
  simp only [Act.put, List.setIfInBounds_toArray, List.set_cons_zero, List.set_cons_succ]
  refine quiet_assign (by rfl) (.tmp 15) rfl (.slice none 0 0) rfl ?_
  simp only [Act.put, List.setIfInBounds_toArray, List.set_cons_zero, List.set_cons_succ]
  refine quiet_assign (by rfl) (.tmp 16) rfl (.bool false) rfl ?_
  simp only [Act.put, List.setIfInBounds_toArray, List.set_cons_zero, List.set_cons_succ]
  refine wpQuiet_nil fun w3 hk3 => ?_
  have HK3 : Hid (Kept [] w w3) := HK0.out.then hk3
  clear hk3
  go_wp2
  refine bodyPost_ret (v := .tuple #[.slice none 0 0, .int .i64 41]) (by simp [results, Tryz.results15, go_sem]) rfl ⟨rfl, HK3.out⟩
set_option maxRecDepth 100000 in
set_option maxHeartbeats 4000000 in
theorem Kind_st [TabC] (h : St w s b n D) {id : List Int} (hid : GoodID id) (hy : Maps.has D (idKey id) = true) {g c : Nat} {xs : List Int} (he : D.atKey (idKey id) .nil = slD g xs.length c) (hb : BytesAt w (.slice (some ⟨g, 0, none⟩) xs.length c) xs) (ho : Octs xs) (hT : Tabs w) :
    Calls Tryz.prog 25 #[.pointer (some ⟨s, 0, none⟩), .agg (idC id)] w fun e w' => e = .returned (.tuple #[.int .i64 (kindX xs), .int .i64 0]) ∧ Kept [] w w' := by
  obtain ⟨v, hlk, hv⟩ := h.lookAll hid
  rw [he] at hv
  obtain rfl := slR_inv hv
  rw [hy] at hlk
  obtain ⟨W0, hW0⟩ : ∃ W0, W0 = w.alloc (.cells (idC id) 29) := ⟨_, rfl⟩
  have HW0 : Hid (W0 = w.alloc (.cells (idC id) 29)) := hW0
  have k0 : Kept [] w W0 := by rw [hW0]; exact (Kept.refl _ _).alloc _
  have HK0 : Hid (Kept [] w W0) := k0
  have HL : Hid (∀ W, Kept [] W0 W → (Instr.lookup 68 (.map (some b)) (.agg (idC id)) true).run Tryz.prog W = .ok (.tuple #[.slice (some ⟨g, 0, none⟩) xs.length c, .bool true]) W) := fun W k => hlk W (k0.then k)
  have HB : Hid (∀ W, Kept [] W0 W → W.cell? ⟨s, 0, none⟩ = some (.map (some b))) := fun W k => by rw [cell_of_row _ _ _ _ _ _ ((k0.then k).heap h.blk (by simp))]; rfl
  have HR : Hid (∀ W, Kept [] W0 W → W.rangeAt w.heap.size 0 (id.map (Value.int .u8))) := fun W k => by
    have h1 : W.heap[w.heap.size]? = some (.cells (id.map (Value.int .u8)).toArray 29 (0, 0)) := k.heap (show W0.heap[w.heap.size]? = _ by rw [hW0]; exact heap_alloc_new w _) (by simp)
    exact row_rangeS h1
  have hui := Tryz.underlying29
  have hso : (Tryz.prog.info? 29).map (·.size) = some (id.map (Value.int .u8)).length := by rw [List.length_map, hid.1]; exact Tryz.infoID
  have hidc : idC id = (id.map (Value.int .u8)).toArray := rfl
  have hsz32 : (idC id).size = 32 := idC_size hid.1
  rw [hidc] at HL HW0 hsz32 ⊢
  have HC : Hid (∀ W, Kept [] W0 W → Calls Tryz.prog 29 #[.slice (some ⟨g, 0, none⟩) xs.length c] W fun e w' => e = .returned (.int .i64 (kindX xs)) ∧ Kept [] W w') := fun W k => Kind_any _ xs W (hb.kept' (k0.then k) (fun _ _ _ => by simp)) ho (hT.kept (k0.then k))
  clear h hlk hv hid k0 hW0 hidc hy he hb ho hT
  generalize id.map (Value.int .u8) = R at *
  go_enter Tryz.func25, Tryz.ntmps25
  go_wp2_with fail
  rw [← HW0.out]
  refine region_quiet (Kept [] W0) (by kernel_rfl) (by kernel_rfl) (Kept.refl [] W0).drew ?_
  refine quiet_move (by rfl) (.tmp 0) rfl (.pointer (some ⟨s, 0, none⟩)) rfl ?_
  simp only [Act.put, List.setIfInBounds_toArray, List.set_cons_zero, List.set_cons_succ]
  refine quiet_val (by rfl) (.pointer (some ⟨s, 0, none⟩)) (fun W => by go_simp) ?_
  simp only [Act.put, List.setIfInBounds_toArray, List.set_cons_zero, List.set_cons_succ]
  refine quiet_val (by rfl) (.pointer (some ⟨s, 0, none⟩)) (fun W => by go_simp) ?_
  simp only [Act.put, List.setIfInBounds_toArray, List.set_cons_zero, List.set_cons_succ]
  refine valC (by rfl) (.map (some b)) (fun W hW => by have hcc := HB.out W hW; go_simp) ?_
  simp only [Act.put, List.setIfInBounds_toArray, List.set_cons_zero, List.set_cons_succ]
  refine quiet_row (by rfl) _ _ rfl w.heap.size 0 rfl R _ HR.out hui rfl hso ?_
  simp only [Act.put, List.setIfInBounds_toArray, List.set_cons_zero, List.set_cons_succ]
  refine valC (by rfl) (.tuple #[.slice (some ⟨g, 0, none⟩) xs.length c, .bool true]) (fun W hW => by have hcc := HL.out W hW; go_simp) ?_
  simp only [Act.put, List.setIfInBounds_toArray, List.set_cons_zero, List.set_cons_succ]
  refine quiet_move (by rfl) (.tmp 14) rfl (.tuple #[.slice (some ⟨g, 0, none⟩) xs.length c, .bool true]) rfl ?_
  simp only [Act.put, List.setIfInBounds_toArray, List.set_cons_zero, List.set_cons_succ]
  refine quiet_val (by rfl) (.slice (some ⟨g, 0, none⟩) xs.length c) (fun W => by go_simp) ?_
  simp only [Act.put, List.setIfInBounds_toArray, List.set_cons_zero, List.set_cons_succ]
  refine quiet_val (by rfl) (.bool true) (fun W => by go_simp) ?_
  simp only [Act.put, List.setIfInBounds_toArray, List.set_cons_zero, List.set_cons_succ]
  refine quiet_assign (by rfl) (.tmp 15) rfl (.slice (some ⟨g, 0, none⟩) xs.length c) rfl ?_
  simp only [Act.put, List.setIfInBounds_toArray, List.set_cons_zero, List.set_cons_succ]
  refine quiet_assign (by rfl) (.tmp 16) rfl (.bool true) rfl ?_
  simp only [Act.put, List.setIfInBounds_toArray, List.set_cons_zero, List.set_cons_succ]
  refine wpQuiet_nil fun w3 hk3 => ?_
  have HK3 : Hid (Kept [] w w3) := HK0.out.then hk3
  have hcl := HC.out w3 hk3
  clear hk3
  go_wp2_with fail
  go_at_call 29
  refine hcl.mono ?_
  rintro e w4 ⟨rfl, k4⟩
  have HK4 : Hid (Kept [] w w4) := HK3.out.then k4
  clear hcl k4
  go_wp2
  refine bodyPost_ret (v := .tuple #[.int .i64 (kindX xs), .int .i64 0]) (by simp [results, Tryz.results25, go_sem]) rfl ⟨rfl, HK4.out⟩
set_option maxRecDepth 100000 in
set_option maxHeartbeats 4000000 in
theorem Children_st [TabC] (h : St w s b n D) {id : List Int} (hid : GoodID id) (hy : Maps.has D (idKey id) = true) {g c : Nat} {xs : List Int} (he : D.atKey (idKey id) .nil = slD g xs.length c) (hb : BytesAt w (.slice (some ⟨g, 0, none⟩) xs.length c) xs) (ho : Octs xs) (hT : Tabs w) :
    Calls Tryz.prog 26 #[.pointer (some ⟨s, 0, none⟩), .agg (idC id)] w (ChA w xs) := by
  obtain ⟨v, hlk, hv⟩ := h.lookAll hid
  rw [he] at hv
  obtain rfl := slR_inv hv
  rw [hy] at hlk
  obtain ⟨W0, hW0⟩ : ∃ W0, W0 = w.alloc (.cells (idC id) 29) := ⟨_, rfl⟩
  have HW0 : Hid (W0 = w.alloc (.cells (idC id) 29)) := hW0
  have k0 : Kept [] w W0 := by rw [hW0]; exact (Kept.refl _ _).alloc _
  have HK0 : Hid (Kept [] w W0) := k0
  have HL : Hid (∀ W, Kept [] W0 W → (Instr.lookup 68 (.map (some b)) (.agg (idC id)) true).run Tryz.prog W = .ok (.tuple #[.slice (some ⟨g, 0, none⟩) xs.length c, .bool true]) W) := fun W k => hlk W (k0.then k)
  have HB : Hid (∀ W, Kept [] W0 W → W.cell? ⟨s, 0, none⟩ = some (.map (some b))) := fun W k => by rw [cell_of_row _ _ _ _ _ _ ((k0.then k).heap h.blk (by simp))]; rfl
  have HR : Hid (∀ W, Kept [] W0 W → W.rangeAt w.heap.size 0 (id.map (Value.int .u8))) := fun W k => by
    have h1 : W.heap[w.heap.size]? = some (.cells (id.map (Value.int .u8)).toArray 29 (0, 0)) := k.heap (show W0.heap[w.heap.size]? = _ by rw [hW0]; exact heap_alloc_new w _) (by simp)
    exact row_rangeS h1
  have hui := Tryz.underlying29
  have hso : (Tryz.prog.info? 29).map (·.size) = some (id.map (Value.int .u8)).length := by rw [List.length_map, hid.1]; exact Tryz.infoID
  have hidc : idC id = (id.map (Value.int .u8)).toArray := rfl
  have hsz32 : (idC id).size = 32 := idC_size hid.1
  rw [hidc] at HL HW0 hsz32 ⊢
  have HC : Hid (∀ W, Kept [] W0 W → Calls Tryz.prog 27 #[.slice (some ⟨g, 0, none⟩) xs.length c] W (ChA W xs)) := fun W k => Children_any _ xs W (hb.kept' (k0.then k) (fun _ _ _ => by simp)) ho (hT.kept (k0.then k))
  clear h hlk hv hid k0 hW0 hidc hy he hb ho hT
  generalize id.map (Value.int .u8) = R at *
  go_enter Tryz.func26, Tryz.ntmps26
  go_wp2_with fail
  rw [← HW0.out]
  refine region_quiet (Kept [] W0) (by kernel_rfl) (by kernel_rfl) (Kept.refl [] W0).drew ?_
  refine quiet_move (by rfl) (.tmp 0) rfl (.pointer (some ⟨s, 0, none⟩)) rfl ?_
  simp only [Act.put, List.setIfInBounds_toArray, List.set_cons_zero, List.set_cons_succ]
  refine quiet_val (by rfl) (.pointer (some ⟨s, 0, none⟩)) (fun W => by go_simp) ?_
  simp only [Act.put, List.setIfInBounds_toArray, List.set_cons_zero, List.set_cons_succ]
  refine quiet_val (by rfl) (.pointer (some ⟨s, 0, none⟩)) (fun W => by go_simp) ?_
  simp only [Act.put, List.setIfInBounds_toArray, List.set_cons_zero, List.set_cons_succ]
  refine valC (by rfl) (.map (some b)) (fun W hW => by have hcc := HB.out W hW; go_simp) ?_
  simp only [Act.put, List.setIfInBounds_toArray, List.set_cons_zero, List.set_cons_succ]
  refine quiet_row (by rfl) _ _ rfl w.heap.size 0 rfl R _ HR.out hui rfl hso ?_
  simp only [Act.put, List.setIfInBounds_toArray, List.set_cons_zero, List.set_cons_succ]
  refine valC (by rfl) (.tuple #[.slice (some ⟨g, 0, none⟩) xs.length c, .bool true]) (fun W hW => by have hcc := HL.out W hW; go_simp) ?_
  simp only [Act.put, List.setIfInBounds_toArray, List.set_cons_zero, List.set_cons_succ]
  refine quiet_move (by rfl) (.tmp 14) rfl (.tuple #[.slice (some ⟨g, 0, none⟩) xs.length c, .bool true]) rfl ?_
  simp only [Act.put, List.setIfInBounds_toArray, List.set_cons_zero, List.set_cons_succ]
  refine quiet_val (by rfl) (.slice (some ⟨g, 0, none⟩) xs.length c) (fun W => by go_simp) ?_
  simp only [Act.put, List.setIfInBounds_toArray, List.set_cons_zero, List.set_cons_succ]
  refine quiet_val (by rfl) (.bool true) (fun W => by go_simp) ?_
  simp only [Act.put, List.setIfInBounds_toArray, List.set_cons_zero, List.set_cons_succ]
  refine quiet_assign (by rfl) (.tmp 15) rfl (.slice (some ⟨g, 0, none⟩) xs.length c) rfl ?_
  simp only [Act.put, List.setIfInBounds_toArray, List.set_cons_zero, List.set_cons_succ]
  refine quiet_assign (by rfl) (.tmp 16) rfl (.bool true) rfl ?_
  simp only [Act.put, List.setIfInBounds_toArray, List.set_cons_zero, List.set_cons_succ]
  refine wpQuiet_nil fun w3 hk3 => ?_
  have HK3 : Hid (Kept [] w w3) := HK0.out.then hk3
  have hcl := HC.out w3 hk3
  clear hk3
  go_wp2_with fail
  go_at_call 27
  refine hcl.mono ?_
  rintro e w4 ⟨lv, rfl, hlv, k4⟩
  have HF : Hid (LinksAt w4 lv (chX xs) ∧ Kept [] w w4) := ⟨hlv, HK3.out.then k4⟩
  obtain ⟨lo, lc, rfl, _⟩ := hlv.form
  obtain ⟨pe, hpe⟩ : ∃ pe, pe = parErr xs := ⟨_, rfl⟩
  have HPE : Hid (pe = parErr xs) := hpe
  rw [← hpe]
  clear hcl k4 hpe
  go_wp2
  refine bodyPost_ret (v := .tuple #[.slice lo (chX xs).length lc, .int .i64 pe]) (by simp [results, Tryz.results26, go_sem]) rfl ⟨_, by rw [HPE.out], HF.out.1, HF.out.2⟩
end
end Go.Proofs.YtbphibolgckmnaaGreatDoor

namespace Go.Proofs.YtbphibolgckmnaaGreatDoor
open Go.RowKit

set_option maxRecDepth 100000 in
set_option maxHeartbeats 2000000 in
theorem sameLinks4_eq (v1 v2 : Value) (ks : List LinkL) (w : World) (h1 : LinksAt w v1 ks) (h2 : LinksAt w v2 ks) (hg : ∀ k, k ∈ ks → k.id.length = 32) :
    Calls Tryz.prog 30 #[v1, v2] w fun e w' => e = .returned (.bool true) ∧ Kept [] w w' := by
  have HN1 : Hid (∀ W, Kept [] w W → LinksAt W v1 ks) := fun W k => h1.kept k
  have HN2 : Hid (∀ W, Kept [] w W → LinksAt W v2 ks) := fun W k => h2.kept k
  have HG : Hid (∀ k, k ∈ ks → k.id.length = 32) := hg
  obtain ⟨a1, c1, rfl, hc1, hl1, _⟩ := h1.form
  obtain ⟨a2, c2, rfl, hc2, hl2, _⟩ := h2.form
  have hue := Tryz.underlying100
  clear h1 h2 hg
  go_enter Tryz.func30, Tryz.ntmps30
  go_wp2
  go_loopw [5] (fun s5 wr => ∃ k : Nat, k ≤ ks.length ∧ s5 = .int .i64 k ∧ Hid (Kept [] w wr)) (fun s5 _ => ks.length - (intOf s5).toNat)
  case atStart => exact ⟨0, Nat.zero_le _, rfl, Kept.refl _ _⟩
  case round =>
    obtain ⟨k, hk, rfl, HK⟩ := hrel
    by_cases hlt : k < ks.length
    · obtain ⟨x, hx⟩ : ∃ x, ks[k]? = some x := ⟨_, List.getElem?_eq_getElem hlt⟩
      have hgx := HG.out x (List.mem_of_getElem? hx)
      obtain ⟨ao', cap', he, _, _, hc⟩ := (HN1.out wr HK.out).form
      injection he with e1 e2 e3
      subst e1 e3
      obtain ⟨b1', off1, rfl, hh1⟩ := hc (by intro e; rw [e] at hlt; simp at hlt)
      obtain ⟨ao', cap', he, _, _, hc⟩ := (HN2.out wr HK.out).form
      injection he with e1 e2 e3
      subst e1 e3
      obtain ⟨b2', off2, rfl, hh2⟩ := hc (by intro e; rw [e] at hlt; simp at hlt)
      have hso : (Tryz.prog.info? 100).map (·.size) = some x.row.length := by rw [LinkL.row_len hgx]; kernel_rfl
      have heqf := fun W => linkEq x hgx W
      have HR1 : Hid (∀ W, Kept [] wr W → W.rangeAt b1' (off1 + k * 33) x.row) := fun W hW => range_kept (hh1 k x hx) hW (by simp)
      have HR2 : Hid (∀ W, Kept [] wr W → W.rangeAt b2' (off2 + k * 33) x.row) := fun W hW => range_kept (hh2 k x hx) hW (by simp)
      have HKK : Hid (∀ W, Kept [] wr W → Kept [] w W) := fun W hW => HK.out.then hW
      clear hh1 hh2 hc hx hgx
      generalize x.row = xr at *
      go_wp2_with fail
      refine region_quiet (Kept [] wr) (by kernel_rfl) (by kernel_rfl) (Kept.refl [] wr).drew ?_
      refine quiet_move (by rfl) (.tmp 0) rfl (.slice (some ⟨b1', off1, none⟩) ks.length c1) rfl ?_
      simp only [Act.put, List.setIfInBounds_toArray, List.set_cons_zero, List.set_cons_succ]
      refine quiet_move (by rfl) (.tmp 5) rfl (.int .i64 k) rfl ?_
      simp only [Act.put, List.setIfInBounds_toArray, List.set_cons_zero, List.set_cons_succ]
      refine quiet_val (by rfl) (.pointer (some ⟨b1', off1 + k * 33, none⟩)) (fun W => by go_simp) ?_
      simp only [Act.put, List.setIfInBounds_toArray, List.set_cons_zero, List.set_cons_succ]
      refine quiet_row (by rfl) _ _ rfl b1' (off1 + k * 33) rfl xr _ HR1.out hue rfl hso ?_
      simp only [Act.put, List.setIfInBounds_toArray, List.set_cons_zero, List.set_cons_succ]
      refine quiet_move (by rfl) (.tmp 1) rfl (.slice (some ⟨b2', off2, none⟩) ks.length c2) rfl ?_
      simp only [Act.put, List.setIfInBounds_toArray, List.set_cons_zero, List.set_cons_succ]
      refine quiet_move (by rfl) (.tmp 5) rfl (.int .i64 k) rfl ?_
      simp only [Act.put, List.setIfInBounds_toArray, List.set_cons_zero, List.set_cons_succ]
      refine quiet_val (by rfl) (.pointer (some ⟨b2', off2 + k * 33, none⟩)) (fun W => by go_simp) ?_
      simp only [Act.put, List.setIfInBounds_toArray, List.set_cons_zero, List.set_cons_succ]
      refine quiet_row (by rfl) _ _ rfl b2' (off2 + k * 33) rfl xr _ HR2.out hue rfl hso ?_
      simp only [Act.put, List.setIfInBounds_toArray, List.set_cons_zero, List.set_cons_succ]
      refine quiet_neqK (by rfl) (.tmp 20) (.tmp 24) _ rfl _ _ rfl rfl true heqf ?_
      simp only [Act.put, List.setIfInBounds_toArray, List.set_cons_zero, List.set_cons_succ]
      refine wpQuiet_nil fun w3 hk3 => ?_
      have HK3 : Hid (Kept [] w w3) := HKK.out w3 hk3
      clear hk3 HR1 HR2 HKK
      go_wp2
      go_roundw
      case rel => exact ⟨k + 1, by omega, by go_num, HK3⟩
      case measure => simp [intOf]; omega
    · have tE : decide ((k : Int) < (ks.length : Int)) = false := decide_eq_false (by omega)
      have tE2 : ¬ k < ks.length := hlt
      go_wp2
      go_ret
      exact ⟨rfl, HK.out⟩
end Go.Proofs.YtbphibolgckmnaaGreatDoor

namespace Go.Proofs.YtbphibolgckmnaaGreatDoor
open Go.RowKit

theorem cmpZ_cmpB : ∀ xs ys : List Int, cmpZ xs ys = cmpB xs ys
  | [], [] => rfl
  | [], _ :: _ => rfl
  | _ :: _, [] => rfl
  | a :: x, b :: y => by
    unfold cmpZ cmpB
    rw [cmpZ_cmpB x y]
set_option maxRecDepth 100000 in
set_option maxHeartbeats 2000000 in
theorem CmpID_any (xs ys : List Int) (w : World) (hx : GoodID xs) (hy : GoodID ys) : Calls Tryz.prog 31 #[.agg (idC xs), .agg (idC ys)] w fun e w' => e = .returned (.int .i64 (cmpZ xs ys)) ∧ Kept [] w w' := by
  obtain ⟨W1, hW1⟩ : ∃ W1, W1 = w.alloc (.cells (idC xs) 29) := ⟨_, rfl⟩
  obtain ⟨W2, hW2⟩ : ∃ W2, W2 = W1.alloc (.cells (idC ys) 29) := ⟨_, rfl⟩
  have HW1 : Hid (W1 = w.alloc (.cells (idC xs) 29)) := hW1
  have HW2 : Hid (W2 = W1.alloc (.cells (idC ys) 29)) := hW2
  have k1 : Kept [] w W1 := by rw [hW1]; exact (Kept.refl _ _).alloc _
  have k2 : Kept [] W1 W2 := by rw [hW2]; exact (Kept.refl _ _).alloc _
  have HK : Hid (Kept [] w W2) := k1.then k2
  have b1 : BytesAt W2 (.slice (some ⟨w.heap.size, 0, none⟩) 32 32) xs := by
    have h := BytesAt.row (w := W2) (g := w.heap.size) (ys := xs) (zs := []) (t := 29) (by rw [List.append_nil]; exact k2.heap (by rw [hW1]; exact heap_alloc_new w _) (by simp)) 32 (by rw [hx.1]; decide)
    rwa [hx.1] at h
  have hs1 : W1.heap.size = w.heap.size + 1 := by rw [hW1]; exact World.size_alloc _ _
  have b2 : BytesAt W2 (.slice (some ⟨w.heap.size + 1, 0, none⟩) 32 32) ys := by
    have h := BytesAt.row (w := W2) (g := W1.heap.size) (ys := ys) (zs := []) (t := 29) (by rw [List.append_nil, hW2]; exact heap_alloc_new W1 _) 32 (by rw [hy.1]; decide)
    rwa [hy.1, hs1] at h
  obtain ⟨r, hr⟩ : ∃ r, r = cmpZ xs ys := ⟨_, rfl⟩
  have HCM : Hid (∀ W, Kept [] W2 W → Calls Tryz.prog 38 #[.slice (some ⟨w.heap.size, 0, none⟩) 32 32, .slice (some ⟨w.heap.size + 1, 0, none⟩) 32 32] W fun e w' => e = .returned (.int .i64 r) ∧ Kept [] W2 w') := fun W q => by
    rw [hr]
    refine (CmpZ_any (b1.kept' q (fun _ _ _ => by simp)) (b2.kept' q (fun _ _ _ => by simp)) (by rw [hx.1]; decide) (by rw [hy.1]; decide)).mono ?_
    rintro e w' ⟨h1, m, h2⟩
    exact ⟨h1, by rw [h2]; exact q.drewN m⟩
  have hz1 : (idC xs).size = 32 := idC_size hx.1
  have hz2 : (idC ys).size = 32 := idC_size hy.1
  rw [← hr]
  clear hx hy k1 k2 b1 b2 hr hW1 hW2 hs1
  go_enter Tryz.func31, Tryz.ntmps31
  go_wp2_with fail
  rw [← HW1.out, ← HW2.out]
  refine region_quiet (Kept [] W2) (by kernel_rfl) (by kernel_rfl) (Kept.refl [] W2).drew ?_
  refine quiet_val (by rfl) (.slice (some ⟨w.heap.size, 0, none⟩) 32 32) (fun W => by go_simp) ?_
  simp only [Act.put, List.setIfInBounds_toArray, List.set_cons_zero, List.set_cons_succ]
  refine quiet_val (by rfl) (.slice (some ⟨w.heap.size + 1, 0, none⟩) 32 32) (fun W => by go_simp) ?_
  simp only [Act.put, List.setIfInBounds_toArray, List.set_cons_zero, List.set_cons_succ]
  refine quiet_call (by rfl) 38 _ (.int .i64 r) (fun W => by go_simp) HCM.out ?_
  simp only [Act.put, List.setIfInBounds_toArray, List.set_cons_zero, List.set_cons_succ]
  refine quiet_assign (by rfl) (.tmp 7) rfl (.int .i64 r) rfl ?_
  simp only [Act.put, List.setIfInBounds_toArray, List.set_cons_zero, List.set_cons_succ]
  refine wpQuiet_nil fun w3 hk3 => ?_
  have HK3 : Hid (Kept [] w w3) := HK.out.then hk3
  clear hk3
  go_wp2
  go_ret
  exact ⟨rfl, HK3.out⟩
end Go.Proofs.YtbphibolgckmnaaGreatDoor

namespace Go.Proofs.YtbphibolgckmnaaGreatDoor
open Go.ChangeShapes Go.WideShapes Go.ChangeAt Go.RowKit Go.Deep

/-- An Ask, whole. -/
structure AskL where
  doo : Int
  o : ObjL
  bv : Value
  bs : List Int
  name : List Int
def AskL.row (a : AskL) : List Value := [.int .i64 a.doo] ++ (a.o.row ++ ([a.bv] ++ [.string (strOfNums a.name)]))
structure AskL.Good (w : World) (a : AskL) : Prop where
  lo : -9223372036854775808 ≤ a.doo
  hi : a.doo ≤ 9223372036854775807
  o : ObjL.Good w a.o
  fits : a.o.Fits
  bv : BytesAt w a.bv a.bs
  bs : GoodText a.bs
  name : GoodText a.name
/-- The slice of the asks lies so. -/
def AsksL (w : World) (v : Value) (aks : List AskL) : Prop :=
  ∃ ao cap, v = .slice ao aks.length cap ∧ aks.length ≤ 140737488351232 ∧
    (aks ≠ [] → ∃ b off, ao = some ⟨b, off, none⟩ ∧ ∀ (i : Nat) (a : AskL), aks[i]? = some a → w.rangeAt b (off + i * 79) a.row)
theorem AsksL.kept {w w' : World} {v : Value} {aks : List AskL} (h : AsksL w v aks) (k : Kept [] w w') : AsksL w' v aks := by
  obtain ⟨ao, cap, rfl, hl, hc⟩ := h
  refine ⟨ao, cap, rfl, hl, fun hne => ?_⟩
  obtain ⟨b, off, rfl, hh⟩ := hc hne
  exact ⟨b, off, rfl, fun i a ha => range_kept (hh i a ha) k (by simp)⟩
theorem AskL.Good.kept {w w' : World} {a : AskL} (h : AskL.Good w a) (k : Kept [] w w') : AskL.Good w' a :=
  ⟨h.lo, h.hi, h.o.kept k, h.fits, h.bv.keep k (fun _ _ _ => by simp), h.bs, h.name⟩
theorem ask_len {a : AskL} (hc : a.o.com.tree.length = 32) (ht : a.o.tag.target.length = 32) : a.row.length = 79 := by
  unfold AskL.row
  rw [List.length_append, List.length_append, objL_len hc ht]
  rfl
theorem AskL.Good.len {w : World} {a : AskL} (h : AskL.Good w a) : a.row.length = 79 := ask_len h.o.com.tree.1 h.o.tag.target.1

instance : Inhabited AskL := ⟨⟨0, default, .slice none 0 0, [], []⟩⟩


section
variable {H : Type} {enc : TypeId × Value → H} {w : World} {base : Nat} {spare : Nat → Bool} {held : Bool} {fuel : Nat} {cs : List Value} {x : DataW H × List MemPlace}

end
end Go.Proofs.YtbphibolgckmnaaGreatDoor

namespace Go.Proofs.YtbphibolgckmnaaGreatDoor
open Go.RowKit

theorem chX_id [TabC] {xs : List Int} (ho : Octs xs) : ∀ k, k ∈ chX xs → k.id.length = 32 := fun k hk => by
  unfold chX at hk
  split at hk
  · rename_i h
    obtain ⟨hl, _⟩ := parErr_zero h
    unfold guessO at hk
    split at hk
    · cases hk
    · split at hk
      · obtain ⟨e, he, rfl⟩ := List.mem_map.1 hk
        exact (gEnts_good ho hl _ _ e he).id.1
      · split at hk
        · rcases List.mem_cons.1 hk with rfl | hk
          · exact (gCom_good ho hl).tree.1
          · obtain ⟨p, hp, rfl⟩ := List.mem_map.1 hk
            exact ((gCom_good ho hl).parents p hp).1
        · rw [List.mem_singleton.1 hk]; exact (gTag_good ho hl).target.1
  · cases hk

end Go.Proofs.YtbphibolgckmnaaGreatDoor
