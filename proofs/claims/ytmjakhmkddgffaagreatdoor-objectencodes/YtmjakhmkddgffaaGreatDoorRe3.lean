/-
  WALK: satchelref3.Encode, over what Wrong and lay come to.
  Names in line: by the program's compare of texts, by the document's own.
-/
import Derived.Test.YtmjakhmkddgffaaGreatDoorRe6
import Derived.Test.YtmjakhmkddgffaaGreatDoorOe0
import Derived.Test.YtmjakhmkddgffaaGreatDoorEnt1
import Derived.Test.YtmjakhmkddgffaaGreatDoorCmpZ
import Derived.Lib.Bytes
namespace Go.Proofs.YtmjakhmkddgffaaGreatDoor
open Go.RowKit

set_option maxRecDepth 100000 in
set_option maxHeartbeats 2000000 in
theorem R3Encode_any (row : Array Value) (w : World) (f : Int) (E : List Int) (hsz : (Tryz.prog.info? 37).map (·.size) = some row.size)
    (HW : ∀ W, Kept [] w W → Calls Tryz.prog 36 #[.agg row] W fun e w' => e = .returned (.int .i64 f) ∧ Kept [] W w')
    (HL : f = 0 → ∀ W, Kept [] w W → Calls Tryz.prog 37 #[.agg row] W fun e w' => ∃ v, e = .returned v ∧ OwnB w' W.heap.size v E ∧ Kept [] W w') :
    Calls Tryz.prog 17 #[.agg row] w fun e w' => ∃ v, e = .returned (.tuple #[v, .int .i64 (encErr f E)]) ∧ BytesAt w' v (if encErr f E = 0 then E else []) ∧ Kept [] w w' := by
  have HB : Hid ((w.alloc (.cells row 37)).heap[w.heap.size]? = some (.cells row 37 (0, 0))) := heap_alloc_new w _
  have HK0 : Hid (Kept [] w (w.alloc (.cells row 37))) := (Kept.refl _ _).alloc _
  have hun := Tryz.underlying37
  have hwr := HW _ HK0.out
  clear HW
  by_cases hf : f = 0
  · have hlay := HL hf
    clear HL
    subst hf
    by_cases hl : 65536 < E.length
    · have t1 : decide ((65536 : Int) < E.length) = true := decide_eq_true (by omega)
      have hE : encErr 0 E = 31 := by unfold encErr; rw [if_neg (by simp), if_pos hl]
      rw [hE, if_neg (by decide)]
      go_enter Tryz.func17, Tryz.ntmps17
      go_wp2_with (refine wpList_load_row (by rfl) 37 (.tmp 1) (by rfl) w.heap.size (by rfl) 37 row (0, 0) _ HB.out hun rfl hsz ?_)
      go_at_call 36
      refine hwr.mono ?_
      rintro e w1 ⟨rfl, k1⟩
      have HB1 : Hid (w1.heap[w.heap.size]? = some (.cells row 37 (0, 0))) := k1.heap HB.out (by simp)
      have HK1 : Hid (Kept [] w w1) := HK0.out.then k1
      have hly := hlay w1 HK1.out
      clear hwr k1 hlay
      go_wp2_with (refine wpList_load_row (by rfl) 37 (.tmp 1) (by rfl) w.heap.size (by rfl) 37 row (0, 0) _ HB1.out hun rfl hsz ?_)
      go_at_call 37
      refine hly.mono ?_
      rintro e w2 ⟨v, rfl, o2, k2⟩
      obtain ⟨ao, cp, rfl⟩ := own_shape o2
      have HK2 : Hid (Kept [] w w2) := HK1.out.then k2
      clear hly o2 k2
      go_wp2
      go_ret2
      exact ⟨_, rfl, BytesAt.nil _, HK2.out⟩
    · have t1 : decide ((65536 : Int) < E.length) = false := decide_eq_false (by omega)
      have hE : encErr 0 E = 0 := by unfold encErr; rw [if_neg (by simp), if_neg hl]
      rw [hE, if_pos rfl]
      go_enter Tryz.func17, Tryz.ntmps17
      go_wp2_with (refine wpList_load_row (by rfl) 37 (.tmp 1) (by rfl) w.heap.size (by rfl) 37 row (0, 0) _ HB.out hun rfl hsz ?_)
      go_at_call 36
      refine hwr.mono ?_
      rintro e w1 ⟨rfl, k1⟩
      have HB1 : Hid (w1.heap[w.heap.size]? = some (.cells row 37 (0, 0))) := k1.heap HB.out (by simp)
      have HK1 : Hid (Kept [] w w1) := HK0.out.then k1
      have hly := hlay w1 HK1.out
      clear hwr k1 hlay
      go_wp2_with (refine wpList_load_row (by rfl) 37 (.tmp 1) (by rfl) w.heap.size (by rfl) 37 row (0, 0) _ HB1.out hun rfl hsz ?_)
      go_at_call 37
      refine hly.mono ?_
      rintro e w2 ⟨v, rfl, o2, k2⟩
      obtain ⟨ao, cp, rfl⟩ := own_shape o2
      have HK2 : Hid (Kept [] w w2) := HK1.out.then k2
      have HO2 : Hid (BytesAt w2 (.slice ao E.length cp) E) := OwnB.bytes o2
      clear hly o2 k2
      go_wp2
      go_ret2
      exact ⟨_, rfl, HO2.out, HK2.out⟩
  · have hE : encErr f E = f := by unfold encErr; rw [if_pos hf]
    rw [hE, if_neg hf]
    clear HL
    have t1 : (f != 0) = true := by simpa using hf
    go_enter Tryz.func17, Tryz.ntmps17
    go_wp2_with (refine wpList_load_row (by rfl) 37 (.tmp 1) (by rfl) w.heap.size (by rfl) 37 row (0, 0) _ HB.out hun rfl hsz ?_)
    go_at_call 36
    refine hwr.mono ?_
    rintro e w1 ⟨rfl, k1⟩
    have HK1 : Hid (Kept [] w w1) := HK0.out.then k1
    clear hwr k1
    go_wp2
    go_ret2
    exact ⟨_, rfl, BytesAt.nil _, HK1.out⟩
end Go.Proofs.YtmjakhmkddgffaaGreatDoor

namespace Go.Proofs.YtmjakhmkddgffaaGreatDoor
open Go.RowKit

theorem byteU (a : Int) (h : 0 ≤ a ∧ a ≤ 255) : ((UInt8.ofNat a.toNat).toNat : Int) = a := by
  rw [UInt8.toNat_ofNat']
  omega
theorem less_cmpZ : ∀ (us vs : List Int), Octs us → Octs vs → Op.bytesLess (us.map fun n => UInt8.ofNat n.toNat) (vs.map fun n => UInt8.ofNat n.toNat) = decide (cmpZ us vs < 0)
  | [], [], _, _ => rfl
  | _ :: _, [], _, _ => rfl
  | [], _ :: _, _, _ => rfl
  | a :: x, b :: y, h1, h2 => by
    have ih := less_cmpZ x y (fun u hu => h1 u (List.mem_cons_of_mem _ hu)) (fun u hu => h2 u (List.mem_cons_of_mem _ hu))
    have ha := byteU a (h1 a (List.mem_cons_self ..))
    have hb := byteU b (h2 b (List.mem_cons_self ..))
    simp only [List.map_cons, Op.bytesLess, cmpZ, ih]
    generalize UInt8.ofNat a.toNat = A at *
    generalize UInt8.ofNat b.toNat = B at *
    by_cases hl : a < b
    · have h3 : A < B := UInt8.lt_iff_toNat_lt.2 (by omega)
      simp [hl, h3]
    · have h3 : ¬ A < B := fun h => by have := UInt8.lt_iff_toNat_lt.1 h; omega
      by_cases hg : b < a
      · have h4 : ¬ A = B := fun h => by rw [h] at ha; omega
        simp [hl, hg, h3, h4]
      · have h4 : A = B := UInt8.toNat_inj.1 (by omega)
        simp [hl, hg, h4]
theorem lessB_cmpZ (us vs : List Int) (h1 : Octs us) (h2 : Octs vs) : lessB us vs = decide (cmpZ us vs < 0) := by
  unfold lessB
  rw [Lib.strOfNums_toList, Lib.strOfNums_toList]
  exact less_cmpZ us vs h1 h2
end Go.Proofs.YtmjakhmkddgffaaGreatDoor
