/-
  WALKS: satchellaw1.CodeWrites, for every script that is not too long.
-/
import Derived.Test.YtnnbfdnkpohnfaaCWrites0
import Derived.Test.YtnnbfdnkpohnfaaOpen
import Derived.Deep.RegionHeld
namespace Go.Proofs.Ytnnbfdnkpohnfaa
open Go.RowKit

theorem sumB_take (ops : List COp) (k : Nat) (o : COp) (h : ops[k]? = some o) : sumB (ops.take (k + 1)) = sumB (ops.take k) + o.b.length ∧ sumB (ops.take k) + o.b.length ≤ sumB ops := by
  have hlt : k < ops.length := (List.getElem?_eq_some_iff.1 h).1
  have ho : ops[k] = o := (List.getElem?_eq_some_iff.1 h).2
  have e1 : sumB (ops.take (k + 1)) = sumB (ops.take k) + o.b.length := by
    rw [List.take_succ_eq_append_getElem hlt, ho]
    simp [sumB]
  have e2 : sumB ops = sumB (ops.take (k + 1)) + sumB (ops.drop (k + 1)) := by
    unfold sumB
    rw [← List.sum_append, ← List.map_append, List.take_append_drop]
  exact ⟨e1, by omega⟩

theorem sumB_le (ops : List COp) (k : Nat) : sumB (ops.take k) ≤ sumB ops := by
  have e2 : sumB ops = sumB (ops.take k) + sumB (ops.drop k) := by
    unfold sumB
    rw [← List.sum_append, ← List.map_append, List.take_append_drop]
  omega

set_option maxRecDepth 100000 in
set_option maxHeartbeats 4000000 in
theorem cwrites_any (w : World) (v0' v1' : Value) (ao2 : Option Addr) (c2 : Nat) (ops : List COp) (hops : OpsAt w (.slice ao2 ops.length c2) ops) (hgd : ∀ o, o ∈ ops → COp.Good o w) (hsum : sumB ops + 5000 ≤ 140737488351232) :
    Calls Try.prog 3 #[.agg #[v0', v1', .slice ao2 ops.length c2]] w fun e w' => e = .returned (.bool true) ∧ Kept [] w w' := by
  obtain ⟨ao, cap, hv, hl, hc⟩ := hops
  simp only [Value.slice.injEq] at hv
  obtain ⟨rfl, _, rfl⟩ := hv
  go_enter Try.func3, Try.ntmps3
  go_wp2_with fail
  refine (New_any _ (w.heap.size + 1) (by simp)).mono ?_
  rintro e w1 ⟨rfl, hA1, hk1⟩
  rw [World.size_alloc] at hA1
  have HA1 : Hid (WAt w1 (w.heap.size + 1) (w.heap.size + 1) [] [w.heap.size + 1]) := hA1
  have HK1 : Hid (Kept [] w w1) := ((Kept.refl [] w).alloc _).then hk1
  have HS1 : Hid (w1.heap[w.heap.size]? = some (.cells #[v0', v1', .slice ao2 ops.length c2] 26 (0, 0))) := hk1.heap (heap_alloc_new w _) (by simp)
  have z1 : w.heap.size + 1 < w1.heap.size := (hA1.lt _ (by simp)).2
  clear hA1 hk1
  go_wp2_with fail
  refine (New_any _ (w.heap.size + 1) (by omega)).mono ?_
  rintro e w2 ⟨rfl, hA2, hk2⟩
  have HA2 : Hid (WAt w2 w1.heap.size (w.heap.size + 1) [] [w1.heap.size]) := hA2
  have HA1' : Hid (WAt w2 (w.heap.size + 1) (w.heap.size + 1) [] [w.heap.size + 1]) := HA1.out.kept hk2 (by simp)
  have HK2 : Hid (Kept [] w w2) := HK1.out.then hk2
  have HS2 : Hid (w2.heap[w.heap.size]? = some (.cells #[v0', v1', .slice ao2 ops.length c2] 26 (0, 0))) := hk2.heap HS1.out (by simp)
  have z2 : w1.heap.size < w2.heap.size := (hA2.lt _ (by simp)).2
  clear hA2 hk2 HA1 HS1 HK1
  have HI : Hid (WBoth w ((w2.alloc (.cells #[.pointer (some ⟨w.heap.size + 1, 0, none⟩), .pointer (some ⟨w1.heap.size, 0, none⟩)] 29)).alloc (.cells #[.slice none 0 0, .slice none 0 0] 23)) #[v0', v1', .slice ao2 ops.length c2] w2.heap.size (w.heap.size + 1) w1.heap.size (.slice none 0 0) (.slice none 0 0) [] [] [w.heap.size + 1] [w1.heap.size]) := by
    have k3 : Kept [] w2 ((w2.alloc (.cells #[.pointer (some ⟨w.heap.size + 1, 0, none⟩), .pointer (some ⟨w1.heap.size, 0, none⟩)] 29)).alloc (.cells #[.slice none 0 0, .slice none 0 0] 23)) := ((Kept.refl _ _).alloc _).alloc _
    have hf : ∀ x S, x ∈ foot (.slice none 0 0) S ↔ x ∈ S := fun x S => by simp [mem_foot, Value.ownBlock]
    refine ⟨HK2.out.then k3, k3.heap HS2.out (by simp), ?_, ?_, ⟨HA1'.out.kept k3 (by simp), World.ownsRow_nil _ _ _ _, fun x hx => by simp [Value.ownBlock] at hx⟩, ⟨HA2.out.kept k3 (by simp), World.ownsRow_nil _ _ _ _, fun x hx => by simp [Value.ownBlock] at hx⟩, ?_, ?_, ?_, ?_, ?_, by omega⟩
    · rw [Below.heap_alloc _ _ _ (by simp)]
      exact heap_alloc_new w2 _
    · exact heap_alloc2_new w2 _ _
    · intro x hx hm
      rw [hf] at hx hm
      simp at hx hm
      omega
    all_goals (rw [hf]; simp; omega)
  clear HA2 HA1' HK2 HS2
  go_wp2
  go_loopw [5] (fun i wv => ∃ (k : Nat) (v0 v1 : Value) (zs0 zs1 : List Int) (S0 S1 : List Nat), k ≤ ops.length ∧ k ≤ 400 ∧ i = .int .i64 k ∧ zs0.length + zs1.length ≤ sumB (ops.take k) + 10 * k ∧ Hid (WBoth w wv #[v0', v1', .slice ao2 ops.length c2] w2.heap.size (w.heap.size + 1) w1.heap.size v0 v1 zs0 zs1 S0 S1)) (fun i _ => ops.length - (intOf i).toNat)
  case atStart => exact ⟨0, _, _, [], [], _, _, Nat.zero_le _, by omega, rfl, by simp, HI⟩
  case round =>
    clear HI
    obtain ⟨k, v0, v1, zs0, zs1, S0, S1, hkk, hk4, rfl, hz, HB⟩ := hrel
    have hsc := HB.out.script
    have hbig := HB.out.big
    have b2 : w2.heap.size < wr.heap.size := by omega
    have b1 : w.heap.size < wr.heap.size := by omega
    have KW := HB.out.kept
    obtain ⟨c00, c01, c10, c11⟩ := HB.out.cells
    by_cases hgo : k < ops.length ∧ k < 400
    · obtain ⟨hlt, h400⟩ := hgo
      obtain ⟨b2', off2, rfl, hops⟩ := hc (by rintro rfl; simp at hlt)
      obtain ⟨o, hko⟩ : ∃ o, ops[k]? = some o := ⟨_, List.getElem?_eq_getElem hlt⟩
      have hgo := hgd o (List.mem_of_getElem? hko)
      have hsb := sumB_take ops k o hko
      have HSB : Hid _ := hsb
      obtain ⟨q0, q1, q2, q3, q4⟩ := hops k o hko
      replace q0 := KW.cell q0 (by simp)
      replace q1 := KW.cell q1 (by simp)
      replace q2 := KW.cell q2 (by simp)
      replace q3 := KW.cell q3 (by simp)
      replace q4 := KW.cell q4 (by simp)
      have hinto := fun W => into_any o.which 2 W (by decide) (by decide) hgo.which0 hgo.which1
      clear hko hops hgd hc
      by_cases hw : o.which % 2 = 0
      · rw [hw] at hinto
        have HWR : Hid (Calls Try.prog 10 #[.pointer (some ⟨(w.heap.size + 1), 0, none⟩), v0, .agg #[.int .i64 o.kind, .int .i64 o.which, .int .i64 o.m, .int .u64 o.n, .slice o.ao o.b.length o.cap]] (wr.alloc (.cells #[.int .i64 o.kind, .int .i64 o.which, .int .i64 o.m, .int .u64 o.n, .slice o.ao o.b.length o.cap] 32)).drew fun e w' => WritesTo (wr.alloc (.cells #[.int .i64 o.kind, .int .i64 o.which, .int .i64 o.m, .int .u64 o.n, .slice o.ao o.b.length o.cap] 32)).drew w' (w.heap.size + 1) (w.heap.size + 1) v0 zs0 S0 o.b.length e) := by
          have kk : Kept [] wr (wr.alloc (.cells #[.int .i64 o.kind, .int .i64 o.which, .int .i64 o.m, .int .u64 o.n, .slice o.ao o.b.length o.cap] 32)).drew := ((Kept.refl _ _).alloc _).drew
          exact writes_any (HB.out.D0.box kk) (Nat.le_trans (by omega) kk.size) o hgo.n0 hgo.n1 ((hgo.at'.kept KW (fun _ _ => by simp)).kept kk (fun _ _ => by simp)) hgo.oct (fun hn b hb hm => absurd (HB.out.D0.lt b hm).1 (by have := hgo.at'.blk_lt hn b hb; omega)) (by omega)
        clear hgo
        go_wp2_with (go_at_call 9; refine (hinto _).mono ?_; rintro e w6 ⟨rfl, rfl⟩)
        go_region_with (go_at_call 10; refine HWR.out.mono ?_; rintro e w7 ⟨v', zs', S', rfl, hT, hz⟩
                        obtain ⟨ao', cp', rfl⟩ := own_shape hT.duo.own
                        obtain ⟨hq7, hB7⟩ := HB.out.step0 (DuoTo.ahead (((Kept.refl _ wr).alloc _).drew) hT)
                        have HB7 : Hid _ := hB7
                        have c7 : w7.cell? ⟨w2.heap.size + 1, 0, none⟩ = some v0 := cell_of_row _ _ _ _ _ _ hq7
                        have f7 : w7.frozen? ⟨w2.heap.size + 1, 0, none⟩ = false := frozen_of_row _ _ _ _ _ hq7
                        have HZ : Hid (zs'.length ≤ zs0.length + o.b.length + 10) := hz
                        clear hT hq7 hB7 hz)
        all_goals go_wp2
        all_goals go_roundw
        all_goals first
          | exact ⟨k + 1, _, v1, zs', zs1, S', S1, by omega, by omega, by go_num, by have := HZ.out; rw [HSB.out.1]; omega, HB7⟩
          | (simp [intOf]; omega)
      · rw [show o.which % 2 = 1 by omega] at hinto
        have HWR : Hid (Calls Try.prog 10 #[.pointer (some ⟨w1.heap.size, 0, none⟩), v1, .agg #[.int .i64 o.kind, .int .i64 o.which, .int .i64 o.m, .int .u64 o.n, .slice o.ao o.b.length o.cap]] (wr.alloc (.cells #[.int .i64 o.kind, .int .i64 o.which, .int .i64 o.m, .int .u64 o.n, .slice o.ao o.b.length o.cap] 32)).drew fun e w' => WritesTo (wr.alloc (.cells #[.int .i64 o.kind, .int .i64 o.which, .int .i64 o.m, .int .u64 o.n, .slice o.ao o.b.length o.cap] 32)).drew w' w1.heap.size (w.heap.size + 1) v1 zs1 S1 o.b.length e) := by
          have kk : Kept [] wr (wr.alloc (.cells #[.int .i64 o.kind, .int .i64 o.which, .int .i64 o.m, .int .u64 o.n, .slice o.ao o.b.length o.cap] 32)).drew := ((Kept.refl _ _).alloc _).drew
          exact writes_any (HB.out.D1.box kk) (Nat.le_trans (by omega) kk.size) o hgo.n0 hgo.n1 ((hgo.at'.kept KW (fun _ _ => by simp)).kept kk (fun _ _ => by simp)) hgo.oct (fun hn b hb hm => absurd (HB.out.D1.lt b hm).1 (by have := hgo.at'.blk_lt hn b hb; omega)) (by omega)
        clear hgo
        go_wp2_with (go_at_call 9; refine (hinto _).mono ?_; rintro e w6 ⟨rfl, rfl⟩)
        go_region_with (go_at_call 10; refine HWR.out.mono ?_; rintro e w7 ⟨v', zs', S', rfl, hT, hz⟩
                        obtain ⟨ao', cp', rfl⟩ := own_shape hT.duo.own
                        obtain ⟨hq7, hB7⟩ := HB.out.step1 (DuoTo.ahead (((Kept.refl _ wr).alloc _).drew) hT)
                        have HB7 : Hid _ := hB7
                        have c7 : w7.cell? ⟨w2.heap.size + 1, 1, none⟩ = some v1 := cell_of_row _ _ _ _ _ _ hq7
                        have f7 : w7.frozen? ⟨w2.heap.size + 1, 1, none⟩ = false := frozen_of_row _ _ _ _ _ hq7
                        have HZ : Hid (zs'.length ≤ zs1.length + o.b.length + 10) := hz
                        clear hT hq7 hB7 hz)
        all_goals go_wp2
        all_goals go_roundw
        all_goals first
          | exact ⟨k + 1, v0, _, zs0, zs', S0, S', by omega, by omega, by go_num, by have := HZ.out; rw [HSB.out.1]; omega, HB7⟩
          | (simp [intOf]; omega)
    · have hle := sumB_le ops k
      have hm0 : zs0.length ≤ 140737488355328 := by omega
      have hm1 : zs1.length ≤ 140737488355328 := by omega
      obtain ⟨ao0, cp0, rfl⟩ := own_shape HB.out.D0.own
      obtain ⟨ao1, cp1, rfl⟩ := own_shape HB.out.D1.own
      clear hc hgd hz hle hsum
      by_cases hlt : k < ops.length
      · have h4 : ¬ k < 400 := fun h => hgo ⟨hlt, h⟩
        clear hgo
        go_wp2
        go_region_held (fun W => W.cell? ⟨w2.heap.size, 0, none⟩ = some (.pointer (some ⟨w.heap.size + 1, 0, none⟩)) ∧ W.cell? ⟨w2.heap.size, 1, none⟩ = some (.pointer (some ⟨w1.heap.size, 0, none⟩)) ∧ W.cell? ⟨w2.heap.size + 1, 0, none⟩ = some (.slice ao0 zs0.length cp0) ∧ W.cell? ⟨w2.heap.size + 1, 1, none⟩ = some (.slice ao1 zs1.length cp1)) (go_keep) (first
          | (go_at_call 12; first
              | (refine (WOut_any (HB.out.box (Kept.refl _ _).drew).D0.wr hm0).mono ?_; rintro e w8 ⟨rfl, hr8, hk8⟩
                 have hB8 := HB.out.box (((Kept.refl [] wr).drew).then hk8)
                 obtain ⟨d00, d01, d10, d11⟩ := hB8.cells
                 have HR8 : Hid (BytesAt w8 _ zs0) := row_bytes2 hr8
                 have HB8 : Hid _ := hB8
                 clear hr8 hk8 hB8)
              | (refine (WOut_any HB9.out.D1.wr hm1).mono ?_; rintro e w10 ⟨rfl, hr10, hk10⟩
                 have hB10 := HB9.out.box hk10
                 obtain ⟨e00, e01, e10, e11⟩ := hB10.cells
                 have HR10 : Hid (BytesAt w10 _ zs1) := row_bytes2 hr10
                 have HB10 : Hid _ := hB10
                 clear hr10 hk10 hB10))
          | (go_at_call 11; first
              | (refine (Eq_same HR8.out HB8.out.D0.own.bytes hm0).mono ?_; rintro e w9 ⟨rfl, n9, rfl⟩
                 have HB9 : Hid _ := HB8.out.box ((Kept.refl _ _).drewN n9))
              | (refine (Eq_same HR10.out HB10.out.D1.own.bytes hm1).mono ?_; rintro e w11 ⟨rfl, n11, rfl⟩
                 have HB11 : Hid _ := HB10.out.box ((Kept.refl _ _).drewN n11)))
          | (go_at_call 13; refine (WLen_any HB11.out.D0.wr).mono ?_; rintro e w12 ⟨rfl, rfl⟩))
        go_wp2
        go_ret
        exact ⟨rfl, HB11.out.kept⟩
      · clear hgo
        go_wp2
        go_region_held (fun W => W.cell? ⟨w2.heap.size, 0, none⟩ = some (.pointer (some ⟨w.heap.size + 1, 0, none⟩)) ∧ W.cell? ⟨w2.heap.size, 1, none⟩ = some (.pointer (some ⟨w1.heap.size, 0, none⟩)) ∧ W.cell? ⟨w2.heap.size + 1, 0, none⟩ = some (.slice ao0 zs0.length cp0) ∧ W.cell? ⟨w2.heap.size + 1, 1, none⟩ = some (.slice ao1 zs1.length cp1)) (go_keep) (first
          | (go_at_call 12; first
              | (refine (WOut_any (HB.out.box (Kept.refl _ _).drew).D0.wr hm0).mono ?_; rintro e w8 ⟨rfl, hr8, hk8⟩
                 have hB8 := HB.out.box (((Kept.refl [] wr).drew).then hk8)
                 obtain ⟨d00, d01, d10, d11⟩ := hB8.cells
                 have HR8 : Hid (BytesAt w8 _ zs0) := row_bytes2 hr8
                 have HB8 : Hid _ := hB8
                 clear hr8 hk8 hB8)
              | (refine (WOut_any HB9.out.D1.wr hm1).mono ?_; rintro e w10 ⟨rfl, hr10, hk10⟩
                 have hB10 := HB9.out.box hk10
                 obtain ⟨e00, e01, e10, e11⟩ := hB10.cells
                 have HR10 : Hid (BytesAt w10 _ zs1) := row_bytes2 hr10
                 have HB10 : Hid _ := hB10
                 clear hr10 hk10 hB10))
          | (go_at_call 11; first
              | (refine (Eq_same HR8.out HB8.out.D0.own.bytes hm0).mono ?_; rintro e w9 ⟨rfl, n9, rfl⟩
                 have HB9 : Hid _ := HB8.out.box ((Kept.refl _ _).drewN n9))
              | (refine (Eq_same HR10.out HB10.out.D1.own.bytes hm1).mono ?_; rintro e w11 ⟨rfl, n11, rfl⟩
                 have HB11 : Hid _ := HB10.out.box ((Kept.refl _ _).drewN n11)))
          | (go_at_call 13; refine (WLen_any HB11.out.D0.wr).mono ?_; rintro e w12 ⟨rfl, rfl⟩))
        go_wp2
        go_ret
        exact ⟨rfl, HB11.out.kept⟩
end Go.Proofs.Ytnnbfdnkpohnfaa
