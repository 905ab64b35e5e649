/-
  WALK: satchellaw3.inside, of an encoding.
-/
import Derived.Test.YtnfbiemmdaenpaaDoorWh0
import Derived.Test.YtnfbiemmdaenpaaDoorRCopy
import Derived.Test.YtnfbiemmdaenpaaDoorEqAn
import Derived.Test.YtnfbiemmdaenpaaDoorPlainV
import Derived.Test.YtnfbiemmdaenpaaDoorDKp
import Derived.Test.YtnfbiemmdaenpaaDoorRows0
import Derived.Test.YtnfbiemmdaenpaaDoorSame0
import Derived.Deep.QuietTactic
import Derived.Deep.CutRange
import Derived.Test.YtnfbiemmdaenpaaDoorTwin
namespace Go.Proofs.YtnfbiemmdaenpaaDoor
open Go.RowKit

theorem bytes_headW {w : World} {ao : Option Addr} {n cap : Nat} {ys : List Int} (h : BytesAt w (.slice ao n cap) ys) (j : Nat) (hj : j ≤ ys.length) : BytesAt w (.slice ao j cap) (ys.take j) := by
  obtain ⟨ao', cap', he, hc, hnil, hh⟩ := h
  injection he with e1 e2 e3
  subst e1 e2 e3
  have hl : (ys.take j).length = j := by rw [List.length_take]; omega
  refine ⟨ao, cap, by rw [hl], by omega, hnil, fun hne => ?_⟩
  obtain ⟨b, off, rfl, hcell⟩ := hh (by rintro rfl; simp at hne)
  refine ⟨b, off, rfl, fun i u hu => ?_⟩
  have hi : i < j := by have := (List.getElem?_eq_some_iff.1 hu).1; omega
  rw [List.getElem?_take_of_lt hi] at hu
  exact hcell i u hu
theorem kept_setRow1 {a w : World} (h : Kept [] a w) (g : Nat) (cs : Array Value) : Kept [g] a (w.setRow g cs) :=
  (h.more (by simp)).then ⟨rfl, rfl, rfl, by simp [World.setRow], fun k _ hn => setRow_other w g k cs (fun e => hn (by simp [e]))⟩
theorem take_drop_one (xs : List Int) (k : Nat) : (xs.take k).drop 1 = (xs.drop 1).take (k - 1) := by
  rw [List.drop_take]

set_option maxRecDepth 100000 in
set_option maxHeartbeats 8000000 in
theorem inside_any (v : Value) (xs : List Int) (n : Int) (w : World) (hv : BytesAt w v xs) (ho : Octs xs) (hp : parErr xs = 0) (hT : Tabs w) :
    Calls Tryd.prog 15 #[v, .int .i64 n] w fun e w' => e = .returned (.bool true) ∧ Kept [] w w' := by
  obtain ⟨hl, k1, k4⟩ := parErr_zero hp
  have hne := par_ne hp
  have hpos : 0 < xs.length := List.length_pos_iff.2 hne
  obtain ⟨ao, cap, rfl, hcap, hnil, hcell0⟩ := hv
  have HV : Hid (∀ W, Kept [] w W → BytesAt W (.slice ao xs.length cap) xs) := fun W k => BytesAt.keep ⟨ao, cap, rfl, hcap, hnil, hcell0⟩ k (fun _ _ _ => by simp)
  obtain ⟨b, off, rfl, hcell⟩ := hcell0 hne
  obtain ⟨x0, hx0⟩ : ∃ x, xs[0]? = some x := ⟨xs[0], List.getElem?_eq_getElem hpos⟩
  have hxA : xAt xs 0 = x0 := by unfold xAt; rw [hx0]; rfl
  have HC0 : Hid (∀ W, Kept [] w W → W.cell? ⟨b, off, none⟩ = some (.int .u8 x0)) := fun W k => by
    have := k.cell (hcell 0 x0 hx0) (by simp)
    rwa [Nat.add_zero] at this
  have hx1 : 1 ≤ x0 ∧ x0 ≤ 4 := by rw [← hxA]; exact ⟨k1, k4⟩
  obtain ⟨K, hK, hKr⟩ : ∃ K : Nat, K < xs.length ∧ (n.tmod xs.length = K ∨ n.tmod xs.length = -(K : Int) ∧ 0 < K) := by
    have h1 := Int.natAbs_tmod n xs.length
    have h2 : n.natAbs % (xs.length : Int).natAbs < xs.length := by rw [Int.natAbs_natCast]; exact Nat.mod_lt _ hpos
    refine ⟨(n.tmod xs.length).natAbs, by rw [h1]; exact h2, ?_⟩
    omega
  have hlt : (xs.take K).length = K := by rw [List.length_take]; omega
  have hcp := Copy_any (.slice (some ⟨b, off, none⟩) K cap) (xs.take K) w (bytes_headW (HV.out w (Kept.refl _ _)) K (by omega)) (by omega)
  rw [hlt] at hcp
  have HP1 : Hid (∀ W v, Kept [] w W → BytesAt W v (xs.take K) → Calls Tryd.prog 9 #[v] W (ParA W (xs.take K))) := fun W v k hv => Parse_any v (xs.take K) W hv (fun u hu => ho u (List.mem_of_mem_take hu)) (hT.kept k)
  obtain ⟨bn, hbn⟩ : ∃ bn, bn = IntKind.u8.wrap n := ⟨_, rfl⟩
  have hbo : 0 ≤ bn ∧ bn ≤ 255 := by rw [hbn, IntKind.wrap_u8]; omega
  have HP2 : Hid (∀ W v, Kept [] w W → BytesAt W v (xs ++ [bn]) → Calls Tryd.prog 9 #[v] W (ParF W (xs ++ [bn]))) := fun W v k hv => Parse_new v (xs ++ [bn]) W hv (fun u hu => by
    rcases List.mem_append.1 hu with h | h
    · exact ho u h
    · rw [List.mem_singleton.1 h]; exact hbo) (hT.kept k)
  have HCP : Hid (∀ W, Kept [] w W → Calls Tryd.prog 23 #[.slice (some ⟨b, off, none⟩) xs.length cap] W fun e w' => e = .returned (.slice (some ⟨W.heap.size, 0, none⟩) xs.length xs.length) ∧ w'.heap[W.heap.size]? = some (.cells (xs.map (Value.int .u8)).toArray 5 (0, 0)) ∧ Kept [] W w') := fun W k => Copy_any _ xs W (HV.out W k) (by omega)
  have HE1 : Hid (x0 = 1 → 0 < K → parErr (xs.take K) = 0) := fun h h0 => par_blob (by omega) (by rw [xAt_take h0, hxA, h]) (fun e => by rw [e] at hlt; simp at hlt; omega)
  have HE2 : Hid (x0 ≠ 1 ∨ K = 0 → parErr (xs.take K) ≠ 0) := fun h => by
    rcases h with h | h
    · exact par_take ho hp (by rw [hxA]; exact h) hK
    · rw [h, List.take_zero, par_nil]; decide
  have HE3 : Hid (x0 = 1 → xs.length ≠ 65536 → parErr (xs ++ [bn]) = 0) := fun h h0 => par_blob (by rw [List.length_append, List.length_singleton]; omega) (by rw [xAt_app hne, hxA, h]) (by simp)
  have HE4 : Hid (x0 ≠ 1 → xs.length ≠ 65536 → parErr (xs ++ [bn]) = 37) := fun h h0 => par_long ho hp (by rw [hxA]; exact h) (by omega)
  have HX : Hid (xAt xs 0 = x0) := hxA
  have hl0 : decide ((xs.length : Int) = 0) = false := by simp; omega
  have hl1 : ((xs.length : Int) == 0) = false := by simp; omega
  clear hT hp k1 k4 hcell hcell0 hx0 hxA hnil
  have hn0 : ¬ (xs.length : Int) = 0 := by omega
  obtain ⟨r, hrr⟩ : ∃ r, n.tmod xs.length = r := ⟨_, rfl⟩
  rw [hrr] at hKr
  go_enter Tryd.func15, Tryd.ntmps15
  go_upto_if 17 with fail
  go_cut [5] from 9 to 19 (fun s5 wx => s5 = .int .i64 K ∧ w = wx)
  case first =>
    rcases hKr with rfl | ⟨rfl, hK0⟩
    · have tk : decide ((K : Int) < 0) = false := by simp
      go_wp2
      go_meet
      exact ⟨rfl, rfl⟩
    · have tk : decide (-(K : Int) < 0) = true := by simp; omega
      go_wp2
      go_meet
      exact ⟨rfl, rfl⟩
  case rest =>
  obtain ⟨rfl, hwc⟩ := hcut
  subst hwc
  clear hKr hrr hl0 hl1 hn0
  go_wp2_with fail
  go_at_call 23
  refine hcp.mono ?_
  rintro e w1 ⟨rfl, row1, k1⟩
  have hb1 : BytesAt w1 (.slice (some ⟨w.heap.size, 0, none⟩) K K) (xs.take K) := by
    have h := row_bytes' row1
    rwa [hlt] at h
  have HK1 : Hid (Kept [] w w1) := k1
  have hpar := HP1.out w1 _ k1 hb1
  clear hcp row1 k1 hb1 HP1
  go_wp2_with fail
  go_at_call 9
  refine hpar.mono ?_
  rintro e w2 ⟨o, rfl, hg2, k2, z1, _⟩
  have hoz : o.row.toArray.size = 76 := by rw [List.size_toArray]; exact objL_len hg2.com.tree.1 hg2.tag.target.1
  have hos : (Tryd.prog.info? 33).map (·.size) = some o.row.toArray.size := by rw [hoz]; kernel_rfl
  have hozz : Tryd.zeroCells33.size = o.row.toArray.size := by rw [hoz]; kernel_rfl
  have ho1 : o.row.toArray.all (·.oneCell') = true := objL_one hg2
  have hK3 : Kept [] w2 (w2.alloc (.cells o.row.toArray 33)) := (Kept.refl _ _).alloc _
  obtain ⟨W3, hW3⟩ : ∃ W3, W3 = w2.alloc (.cells o.row.toArray 33) := ⟨_, rfl⟩
  have HW3 : Hid (W3 = w2.alloc (.cells o.row.toArray 33)) := hW3
  have HO3 : Hid (W3.heap[w2.heap.size]? = some (.cells o.row.toArray 33 (0, 0))) := by rw [hW3]; exact heap_alloc_new w2 _
  have HK3 : Hid (Kept [] w W3) := by rw [hW3]; exact (HK1.out.then k2).then hK3
  have HS2 : Hid (w.heap.size ≤ w2.heap.size) := (HK1.out.then k2).size
  have HBL : Hid (x0 = 1 → 0 < K → ∃ ab cb, W3.cell? ⟨w2.heap.size, 1, none⟩ = some (.slice ab (K - 1) cb) ∧ BytesAt W3 (.slice ab (K - 1) cb) ((xs.drop 1).take (K - 1))) := fun hx h0 => by
    obtain ⟨bv, ev, pv, he⟩ := z1 (HE1.out hx h0)
    have hxk : xAt (xs.take K) 0 = 1 := by rw [xAt_take h0, HX.out, hx]
    rw [guessO_blob hxk] at he
    obtain ⟨_, q1, _, _, _⟩ := obj_cells (o := o) hg2.com.tree.1 HO3.out
    have hb := hg2.bv.keep hK3 (fun _ _ _ => by simp)
    rw [← hW3] at hb
    have ebl : o.blob = (xs.drop 1).take (K - 1) := by rw [he, ← take_drop_one]
    rw [ebl] at hb
    have hbl : ((xs.drop 1).take (K - 1)).length = K - 1 := by rw [List.length_take, List.length_drop]; omega
    obtain ⟨ab, cb, hv, _⟩ := id hb
    rw [hbl] at hv
    rw [hv] at q1 hb
    exact ⟨ab, cb, q1, hb⟩
  clear hpar k2 z1 hK3 hg2 hW3
  generalize o.row.toArray = orr at *
  have gc0 := HC0.out W3 HK3.out
  have hie : 0 ≤ x0 ∧ x0 ≤ 255 := by omega
  by_cases hx : x0 = 1
  · subst hx
    by_cases h0 : 0 < K
    · obtain ⟨ab, cb, gb, hbb⟩ := HBL.out rfl h0
      have e0 := HE1.out rfl h0
      have hvv := (bytes_cut (HV.out W3 HK3.out) 1 (K - 1) (by omega)).1
      have hc1 : ¬ cap = 1 := by omega
      have hcu : cutA (some ⟨b, off, none⟩) cap 1 = some ⟨b, off + 1, none⟩ := by
        unfold cutA
        rw [if_neg hc1]
        rfl
      rw [hcu] at hvv
      have heq := fun n => Eq_same (w := W3.drewN n) (hbb.drewN n) (hvv.drewN n) (by rw [List.length_take]; omega)
      rw [e0]
      have tK : decide (0 < (K : Int)) = true := by simp; omega
      have hK1 : (1 : Int) ≤ (K : Int) := by omega
      have hKc : (K : Int) ≤ (cap : Int) := by omega
      have eK : ((K : Int) - 1).toNat = K - 1 := by omega
      clear hbb hvv hcu e0 HE1 HE2 HBL
      go_wp2_with (first
        | (refine wpList_store_new (by rfl) 33 (.tmp 6) (.tmp 26) (by rfl) w2 _ orr (by rfl) (by rfl) hos hozz ho1 ?_; rw [← HW3.out]))
      go_quiet (first
        | (go_at_call 12; with_reducible exact Calls.quiet_of (heq _)))
      have HK4 : Kept [] w (W3.drewN nq) := HK3.out.drewN nq
      have HO4 : (W3.drewN nq).heap[w2.heap.size]? = some (.cells orr 33 (0, 0)) := HO3.out
      clear heq gb gc0
      generalize W3.drewN nq = W4 at *
      have HK4 : Hid (Kept [] w W4) := HK4
      have HO4 : Hid (W4.heap[w2.heap.size]? = some (.cells orr 33 (0, 0))) := HO4
      by_cases hmax : xs.length = 65536
      · have tm : ((xs.length : Int) == 65536) = true := by simp; omega
        go_wp2
        go_ret
        exact ⟨rfl, HK4.out⟩
      · have tm : ((xs.length : Int) == 65536) = false := by simp; omega
        have hcp5 := HCP.out W4 HK4.out
        have hw1 : IntKind.u8.wrap n = bn := hbn.symm
        have hw2 : n % 256 = bn := by rw [hbn, IntKind.wrap_u8]
        clear hbn
        go_wp2_with fail
        go_at_call 23
        refine hcp5.mono ?_
        rintro e w5 ⟨rfl, row5, k5⟩
        have HO5 : Hid (OwnB (w5.alloc (.cells #[.int .u8 bn] 5)) W4.heap.size (.slice (some ⟨W4.heap.size, 0, none⟩) xs.length xs.length) xs) := (own_row row5 (by omega)).kept (T := []) ((Kept.refl _ _).alloc _) (by simp)
        have HX5 : Hid (BytesAt (w5.alloc (.cells #[.int .u8 bn] 5)) (.slice (some ⟨w5.heap.size, 0, none⟩) 1 1) [bn]) := (OwnB.one bn).bytes
        have HK5 : Hid (Kept [] W4 (w5.alloc (.cells #[.int .u8 bn] 5))) := k5.alloc _
        have ly : xs.length + [bn].length ≤ 140737488355328 := by simp; omega
        have hb5 : W4.heap.size ≤ (w5.alloc (.cells #[.int .u8 bn] 5)).heap.size := HK5.out.size
        clear hcp5 row5 k5
        go_wp2_with (at_builtin; refine wpList_append_bytes (by rfl) (.tmp 55) (.tmp 58) (by rfl) (by rfl) HO5.out (by rfl) HX5.out ly hb5 ?_; intro v6 w6 ha6)
        have ho6 : OwnB w6 W4.heap.size v6 (xs ++ [bn]) := ha6.own
        have HK6 : Hid (Kept [] W4 w6) := ha6.keep W4 [] HK5.out (fun x hx => Or.inr (World.ownsRow.lt HO5.out x hx).1)
        have hnew6 : ∀ k, v6.ownBlock = some k → W4.heap.size ≤ k := fun k hk => (World.ownsRow.lt ho6 k hk).1
        obtain ⟨a6, c6, hv6, hc6, _, hcell6⟩ := ho6.bytes
        obtain ⟨b6, off6, rfl, hcell6⟩ := hcell6 (by simp)
        subst hv6
        have hb6n : W4.heap.size ≤ b6 := hnew6 b6 rfl
        have hb6 : BytesAt w6 (.slice (some ⟨b6, off6, none⟩) (xs ++ [bn]).length c6) (xs ++ [bn]) := ho6.bytes
        have HB6 : Hid (BytesAt w6 (.slice (some ⟨b6, off6, none⟩) (xs ++ [bn]).length c6) (xs ++ [bn])) := hb6
        obtain ⟨n6, hn6⟩ : ∃ n6, n6 = (xs ++ [bn]).length := ⟨_, rfl⟩
        have hn7 : n6 = xs.length + 1 := by rw [hn6, List.length_append, List.length_singleton]
        have hn61 : (1 : Int) ≤ (n6 : Int) := by omega
        have hpar6 := HP2.out w6 _ (HK4.out.then HK6.out) hb6
        rw [← hn6] at HB6 hpar6 hc6
        rw [← hn6]
        have HN6 : Hid (n6 = (xs ++ [bn]).length) := hn6
        have HN7 : Hid (n6 = xs.length + 1) := hn7
        clear ha6 ho6 hcell6 hb6 HO5 HX5 HK5 hn6 hn7
        go_at_call 9
        refine hpar6.mono ?_
        rintro e w7 ⟨p, rfl, hg7, k7, z7, _, hnw⟩
        have hpz : p.row.toArray.size = 76 := by rw [List.size_toArray]; exact objL_len hg7.com.tree.1 hg7.tag.target.1
        have hps : (Tryd.prog.info? 33).map (·.size) = some p.row.toArray.size := by rw [hpz]; kernel_rfl
        have hpz2 : orr.size = p.row.toArray.size := by rw [hpz]; exact hoz
        have hp1 : p.row.toArray.all (·.oneCell') = true := objL_one hg7
        have HO6 : Hid (w6.heap[w2.heap.size]? = some (.cells orr 33 (0, 0))) := HK6.out.heap HO4.out (by simp)
        have HO7 : Hid (w7.heap[w2.heap.size]? = some (.cells orr 33 (0, 0))) := (HK6.out.then k7).heap HO4.out (by simp)
        have HK7 : Hid (Kept [] w w7) := (HK4.out.then HK6.out).then k7
        have HK8 : Hid (Kept [] w (w7.setRow w2.heap.size p.row.toArray)) := HK7.out.setRowN HS2.out _
        have HO8 : Hid ((w7.setRow w2.heap.size p.row.toArray).heap[w2.heap.size]? = some (.cells p.row.toArray 33 (0, 0))) := setRow_heap _ _ _ _ _ _ HO7.out
        have gc8 := HC0.out _ HK8.out
        have hn7 := HN7.out
        have e8 := HE3.out (by trivial) hmax
        have HBL8 : ∃ ab cb, (w7.setRow w2.heap.size p.row.toArray).cell? ⟨w2.heap.size, 1, none⟩ = some (.slice ab (n6 - 1) cb) ∧ BytesAt (w7.setRow w2.heap.size p.row.toArray) (.slice ab (n6 - 1) cb) ((xs ++ [bn]).drop 1) := by
          obtain ⟨bv, ev, pv, he⟩ := z7 e8
          rw [guessO_blob (by rw [xAt_app hne, HX.out])] at he
          obtain ⟨_, q1, _, _, _⟩ := obj_cells (o := p) hg7.com.tree.1 HO8.out
          have hb := hg7.bv
          have ebl : p.blob = (xs ++ [bn]).drop 1 := by rw [he]
          rw [ebl] at hb
          have hbl : ((xs ++ [bn]).drop 1).length = n6 - 1 := by rw [List.length_drop, ← HN6.out]
          obtain ⟨ab, cb, hv, _⟩ := id hb
          rw [hbl] at hv
          rw [hv] at q1 hb
          refine ⟨ab, cb, q1, hb.keep (S := [w2.heap.size]) ⟨rfl, rfl, rfl, by simp [World.setRow], fun j _ hn => setRow_other _ _ j _ (fun e => hn (by simp [e]))⟩ (fun _ k hk hm => ?_)⟩
          have h1 := hnw k (Or.inl (by rw [hv]; exact hk))
          have h2 : k = w2.heap.size := by simpa using hm
          have h3 := lt_of_block HO6.out
          omega
        obtain ⟨ab8, cb8, gb8, hbb8⟩ := HBL8
        have hvv8 := bytes_tail (HB6.out.keep (S := [w2.heap.size]) (kept_setRow1 k7 w2.heap.size p.row.toArray) (fun _ k hk hm => by
          have h2 : k = w2.heap.size := by simpa using hm
          have h3 : b6 = k := by simpa [blkOf] using hk
          have h4 := lt_of_block HO4.out
          omega)) 1 (by rw [← HN6.out]; omega)
        have hc61 : ¬ c6 = 1 := by omega
        have hcu8 : cutA (some ⟨b6, off6, none⟩) c6 1 = some ⟨b6, off6 + 1, none⟩ := by
          unfold cutA
          rw [if_neg hc61]
          rfl
        rw [← HN6.out, hcu8] at hvv8
        have heq8 := fun n => Eq_same (w := (w7.setRow w2.heap.size p.row.toArray).drewN n) (hbb8.drewN n) (hvv8.drewN n) (by rw [List.length_drop, ← HN6.out]; omega)
        rw [e8]
        clear hbb8 hn7
        clear hpar6 k7 z7 hg7 hpz
        generalize p.row.toArray = prr at *
        go_wp2_with (first
          | (refine wpList_store_row (by rfl) 33 (.tmp 6) (.tmp 63) (by rfl) w2.heap.size prr (by rfl) (by rfl) 33 _ HO7.out hps hpz2 hp1 ?_))
        go_quiet (first
          | (go_at_call 12; with_reducible exact Calls.quiet_of (heq8 _)))
        go_wp2
        go_ret
        exact ⟨rfl, HK8.out.drewN _⟩
    · have e0 := HE2.out (Or.inr (by omega))
      obtain ⟨e0v, he0⟩ : ∃ v, v = parErr (xs.take K) := ⟨_, rfl⟩
      rw [← he0] at e0 ⊢
      clear he0
      have te : (e0v == 0) = false := by simpa using e0
      have tK : decide (0 < (K : Int)) = false := by simp; omega
      clear e0 HE1 HE2 HBL
      go_wp2_with (first
        | (refine wpList_store_new (by rfl) 33 (.tmp 6) (.tmp 26) (by rfl) w2 _ orr (by rfl) (by rfl) hos hozz ho1 ?_; rw [← HW3.out]))
      go_quiet (fail)
      have HK4 : Kept [] w (W3.drewN nq) := HK3.out.drewN nq
      have HO4 : (W3.drewN nq).heap[w2.heap.size]? = some (.cells orr 33 (0, 0)) := HO3.out
      clear gc0
      generalize W3.drewN nq = W4 at *
      have HK4 : Hid (Kept [] w W4) := HK4
      have HO4 : Hid (W4.heap[w2.heap.size]? = some (.cells orr 33 (0, 0))) := HO4
      by_cases hmax : xs.length = 65536
      · have tm : ((xs.length : Int) == 65536) = true := by simp; omega
        go_wp2
        go_ret
        exact ⟨rfl, HK4.out⟩
      · have tm : ((xs.length : Int) == 65536) = false := by simp; omega
        have hcp5 := HCP.out W4 HK4.out
        have hw1 : IntKind.u8.wrap n = bn := hbn.symm
        have hw2 : n % 256 = bn := by rw [hbn, IntKind.wrap_u8]
        clear hbn
        go_wp2_with fail
        go_at_call 23
        refine hcp5.mono ?_
        rintro e w5 ⟨rfl, row5, k5⟩
        have HO5 : Hid (OwnB (w5.alloc (.cells #[.int .u8 bn] 5)) W4.heap.size (.slice (some ⟨W4.heap.size, 0, none⟩) xs.length xs.length) xs) := (own_row row5 (by omega)).kept (T := []) ((Kept.refl _ _).alloc _) (by simp)
        have HX5 : Hid (BytesAt (w5.alloc (.cells #[.int .u8 bn] 5)) (.slice (some ⟨w5.heap.size, 0, none⟩) 1 1) [bn]) := (OwnB.one bn).bytes
        have HK5 : Hid (Kept [] W4 (w5.alloc (.cells #[.int .u8 bn] 5))) := k5.alloc _
        have ly : xs.length + [bn].length ≤ 140737488355328 := by simp; omega
        have hb5 : W4.heap.size ≤ (w5.alloc (.cells #[.int .u8 bn] 5)).heap.size := HK5.out.size
        clear hcp5 row5 k5
        go_wp2_with (at_builtin; refine wpList_append_bytes (by rfl) (.tmp 55) (.tmp 58) (by rfl) (by rfl) HO5.out (by rfl) HX5.out ly hb5 ?_; intro v6 w6 ha6)
        have ho6 : OwnB w6 W4.heap.size v6 (xs ++ [bn]) := ha6.own
        have HK6 : Hid (Kept [] W4 w6) := ha6.keep W4 [] HK5.out (fun x hx => Or.inr (World.ownsRow.lt HO5.out x hx).1)
        have hnew6 : ∀ k, v6.ownBlock = some k → W4.heap.size ≤ k := fun k hk => (World.ownsRow.lt ho6 k hk).1
        obtain ⟨a6, c6, hv6, hc6, _, hcell6⟩ := ho6.bytes
        obtain ⟨b6, off6, rfl, hcell6⟩ := hcell6 (by simp)
        subst hv6
        have hb6n : W4.heap.size ≤ b6 := hnew6 b6 rfl
        have hb6 : BytesAt w6 (.slice (some ⟨b6, off6, none⟩) (xs ++ [bn]).length c6) (xs ++ [bn]) := ho6.bytes
        have HB6 : Hid (BytesAt w6 (.slice (some ⟨b6, off6, none⟩) (xs ++ [bn]).length c6) (xs ++ [bn])) := hb6
        obtain ⟨n6, hn6⟩ : ∃ n6, n6 = (xs ++ [bn]).length := ⟨_, rfl⟩
        have hn7 : n6 = xs.length + 1 := by rw [hn6, List.length_append, List.length_singleton]
        have hn61 : (1 : Int) ≤ (n6 : Int) := by omega
        have hpar6 := HP2.out w6 _ (HK4.out.then HK6.out) hb6
        rw [← hn6] at HB6 hpar6 hc6
        rw [← hn6]
        have HN6 : Hid (n6 = (xs ++ [bn]).length) := hn6
        have HN7 : Hid (n6 = xs.length + 1) := hn7
        clear ha6 ho6 hcell6 hb6 HO5 HX5 HK5 hn6 hn7
        go_at_call 9
        refine hpar6.mono ?_
        rintro e w7 ⟨p, rfl, hg7, k7, z7, _, hnw⟩
        have hpz : p.row.toArray.size = 76 := by rw [List.size_toArray]; exact objL_len hg7.com.tree.1 hg7.tag.target.1
        have hps : (Tryd.prog.info? 33).map (·.size) = some p.row.toArray.size := by rw [hpz]; kernel_rfl
        have hpz2 : orr.size = p.row.toArray.size := by rw [hpz]; exact hoz
        have hp1 : p.row.toArray.all (·.oneCell') = true := objL_one hg7
        have HO6 : Hid (w6.heap[w2.heap.size]? = some (.cells orr 33 (0, 0))) := HK6.out.heap HO4.out (by simp)
        have HO7 : Hid (w7.heap[w2.heap.size]? = some (.cells orr 33 (0, 0))) := (HK6.out.then k7).heap HO4.out (by simp)
        have HK7 : Hid (Kept [] w w7) := (HK4.out.then HK6.out).then k7
        have HK8 : Hid (Kept [] w (w7.setRow w2.heap.size p.row.toArray)) := HK7.out.setRowN HS2.out _
        have HO8 : Hid ((w7.setRow w2.heap.size p.row.toArray).heap[w2.heap.size]? = some (.cells p.row.toArray 33 (0, 0))) := setRow_heap _ _ _ _ _ _ HO7.out
        have gc8 := HC0.out _ HK8.out
        have hn7 := HN7.out
        have e8 := HE3.out (by trivial) hmax
        have HBL8 : ∃ ab cb, (w7.setRow w2.heap.size p.row.toArray).cell? ⟨w2.heap.size, 1, none⟩ = some (.slice ab (n6 - 1) cb) ∧ BytesAt (w7.setRow w2.heap.size p.row.toArray) (.slice ab (n6 - 1) cb) ((xs ++ [bn]).drop 1) := by
          obtain ⟨bv, ev, pv, he⟩ := z7 e8
          rw [guessO_blob (by rw [xAt_app hne, HX.out])] at he
          obtain ⟨_, q1, _, _, _⟩ := obj_cells (o := p) hg7.com.tree.1 HO8.out
          have hb := hg7.bv
          have ebl : p.blob = (xs ++ [bn]).drop 1 := by rw [he]
          rw [ebl] at hb
          have hbl : ((xs ++ [bn]).drop 1).length = n6 - 1 := by rw [List.length_drop, ← HN6.out]
          obtain ⟨ab, cb, hv, _⟩ := id hb
          rw [hbl] at hv
          rw [hv] at q1 hb
          refine ⟨ab, cb, q1, hb.keep (S := [w2.heap.size]) ⟨rfl, rfl, rfl, by simp [World.setRow], fun j _ hn => setRow_other _ _ j _ (fun e => hn (by simp [e]))⟩ (fun _ k hk hm => ?_)⟩
          have h1 := hnw k (Or.inl (by rw [hv]; exact hk))
          have h2 : k = w2.heap.size := by simpa using hm
          have h3 := lt_of_block HO6.out
          omega
        obtain ⟨ab8, cb8, gb8, hbb8⟩ := HBL8
        have hvv8 := bytes_tail (HB6.out.keep (S := [w2.heap.size]) (kept_setRow1 k7 w2.heap.size p.row.toArray) (fun _ k hk hm => by
          have h2 : k = w2.heap.size := by simpa using hm
          have h3 : b6 = k := by simpa [blkOf] using hk
          have h4 := lt_of_block HO4.out
          omega)) 1 (by rw [← HN6.out]; omega)
        have hc61 : ¬ c6 = 1 := by omega
        have hcu8 : cutA (some ⟨b6, off6, none⟩) c6 1 = some ⟨b6, off6 + 1, none⟩ := by
          unfold cutA
          rw [if_neg hc61]
          rfl
        rw [← HN6.out, hcu8] at hvv8
        have heq8 := fun n => Eq_same (w := (w7.setRow w2.heap.size p.row.toArray).drewN n) (hbb8.drewN n) (hvv8.drewN n) (by rw [List.length_drop, ← HN6.out]; omega)
        rw [e8]
        clear hbb8 hn7
        clear hpar6 k7 z7 hg7 hpz
        generalize p.row.toArray = prr at *
        go_wp2_with (first
          | (refine wpList_store_row (by rfl) 33 (.tmp 6) (.tmp 63) (by rfl) w2.heap.size prr (by rfl) (by rfl) 33 _ HO7.out hps hpz2 hp1 ?_))
        go_quiet (first
          | (go_at_call 12; with_reducible exact Calls.quiet_of (heq8 _)))
        go_wp2
        go_ret
        exact ⟨rfl, HK8.out.drewN _⟩
  · have e0 := HE2.out (Or.inl hx)
    by_cases h0 : 0 < K
    · have tK : decide (0 < (K : Int)) = true := by simp; omega
      obtain ⟨e0v, he0⟩ : ∃ v, v = parErr (xs.take K) := ⟨_, rfl⟩
      rw [← he0] at e0 ⊢
      clear he0
      have te : (e0v == 0) = false := by simpa using e0
      have tx : (x0 == 1) = false := by simpa using hx
      clear e0 HE1 HE2 HBL
      go_wp2_with (first
        | (refine wpList_store_new (by rfl) 33 (.tmp 6) (.tmp 26) (by rfl) w2 _ orr (by rfl) (by rfl) hos hozz ho1 ?_; rw [← HW3.out]))
      go_quiet (fail)
      have HK4 : Kept [] w (W3.drewN nq) := HK3.out.drewN nq
      have HO4 : (W3.drewN nq).heap[w2.heap.size]? = some (.cells orr 33 (0, 0)) := HO3.out
      clear gc0
      generalize W3.drewN nq = W4 at *
      have HK4 : Hid (Kept [] w W4) := HK4
      have HO4 : Hid (W4.heap[w2.heap.size]? = some (.cells orr 33 (0, 0))) := HO4
      by_cases hmax : xs.length = 65536
      · have tm : ((xs.length : Int) == 65536) = true := by simp; omega
        go_wp2
        go_ret
        exact ⟨rfl, HK4.out⟩
      · have tm : ((xs.length : Int) == 65536) = false := by simp; omega
        have hcp5 := HCP.out W4 HK4.out
        have hw1 : IntKind.u8.wrap n = bn := hbn.symm
        have hw2 : n % 256 = bn := by rw [hbn, IntKind.wrap_u8]
        clear hbn
        go_wp2_with fail
        go_at_call 23
        refine hcp5.mono ?_
        rintro e w5 ⟨rfl, row5, k5⟩
        have HO5 : Hid (OwnB (w5.alloc (.cells #[.int .u8 bn] 5)) W4.heap.size (.slice (some ⟨W4.heap.size, 0, none⟩) xs.length xs.length) xs) := (own_row row5 (by omega)).kept (T := []) ((Kept.refl _ _).alloc _) (by simp)
        have HX5 : Hid (BytesAt (w5.alloc (.cells #[.int .u8 bn] 5)) (.slice (some ⟨w5.heap.size, 0, none⟩) 1 1) [bn]) := (OwnB.one bn).bytes
        have HK5 : Hid (Kept [] W4 (w5.alloc (.cells #[.int .u8 bn] 5))) := k5.alloc _
        have ly : xs.length + [bn].length ≤ 140737488355328 := by simp; omega
        have hb5 : W4.heap.size ≤ (w5.alloc (.cells #[.int .u8 bn] 5)).heap.size := HK5.out.size
        clear hcp5 row5 k5
        go_wp2_with (at_builtin; refine wpList_append_bytes (by rfl) (.tmp 55) (.tmp 58) (by rfl) (by rfl) HO5.out (by rfl) HX5.out ly hb5 ?_; intro v6 w6 ha6)
        have ho6 : OwnB w6 W4.heap.size v6 (xs ++ [bn]) := ha6.own
        have HK6 : Hid (Kept [] W4 w6) := ha6.keep W4 [] HK5.out (fun x hx => Or.inr (World.ownsRow.lt HO5.out x hx).1)
        have hnew6 : ∀ k, v6.ownBlock = some k → W4.heap.size ≤ k := fun k hk => (World.ownsRow.lt ho6 k hk).1
        obtain ⟨a6, c6, hv6, hc6, _, hcell6⟩ := ho6.bytes
        obtain ⟨b6, off6, rfl, hcell6⟩ := hcell6 (by simp)
        subst hv6
        have hb6n : W4.heap.size ≤ b6 := hnew6 b6 rfl
        have hb6 : BytesAt w6 (.slice (some ⟨b6, off6, none⟩) (xs ++ [bn]).length c6) (xs ++ [bn]) := ho6.bytes
        have HB6 : Hid (BytesAt w6 (.slice (some ⟨b6, off6, none⟩) (xs ++ [bn]).length c6) (xs ++ [bn])) := hb6
        obtain ⟨n6, hn6⟩ : ∃ n6, n6 = (xs ++ [bn]).length := ⟨_, rfl⟩
        have hn7 : n6 = xs.length + 1 := by rw [hn6, List.length_append, List.length_singleton]
        have hn61 : (1 : Int) ≤ (n6 : Int) := by omega
        have hpar6 := HP2.out w6 _ (HK4.out.then HK6.out) hb6
        rw [← hn6] at HB6 hpar6 hc6
        rw [← hn6]
        have HN6 : Hid (n6 = (xs ++ [bn]).length) := hn6
        have HN7 : Hid (n6 = xs.length + 1) := hn7
        clear ha6 ho6 hcell6 hb6 HO5 HX5 HK5 hn6 hn7
        go_at_call 9
        refine hpar6.mono ?_
        rintro e w7 ⟨p, rfl, hg7, k7, z7, _, hnw⟩
        have hpz : p.row.toArray.size = 76 := by rw [List.size_toArray]; exact objL_len hg7.com.tree.1 hg7.tag.target.1
        have hps : (Tryd.prog.info? 33).map (·.size) = some p.row.toArray.size := by rw [hpz]; kernel_rfl
        have hpz2 : orr.size = p.row.toArray.size := by rw [hpz]; exact hoz
        have hp1 : p.row.toArray.all (·.oneCell') = true := objL_one hg7
        have HO6 : Hid (w6.heap[w2.heap.size]? = some (.cells orr 33 (0, 0))) := HK6.out.heap HO4.out (by simp)
        have HO7 : Hid (w7.heap[w2.heap.size]? = some (.cells orr 33 (0, 0))) := (HK6.out.then k7).heap HO4.out (by simp)
        have HK7 : Hid (Kept [] w w7) := (HK4.out.then HK6.out).then k7
        have HK8 : Hid (Kept [] w (w7.setRow w2.heap.size p.row.toArray)) := HK7.out.setRowN HS2.out _
        have HO8 : Hid ((w7.setRow w2.heap.size p.row.toArray).heap[w2.heap.size]? = some (.cells p.row.toArray 33 (0, 0))) := setRow_heap _ _ _ _ _ _ HO7.out
        have gc8 := HC0.out _ HK8.out
        have e8 := HE4.out hx hmax
        rw [e8]
        clear hpar6 k7 z7 hg7 hpz
        generalize p.row.toArray = prr at *
        go_wp2_with (first
          | (refine wpList_store_row (by rfl) 33 (.tmp 6) (.tmp 63) (by rfl) w2.heap.size prr (by rfl) (by rfl) 33 _ HO7.out hps hpz2 hp1 ?_))
        go_ret
        exact ⟨rfl, HK8.out⟩
    · have tK : decide (0 < (K : Int)) = false := by simp; omega
      obtain ⟨e0v, he0⟩ : ∃ v, v = parErr (xs.take K) := ⟨_, rfl⟩
      rw [← he0] at e0 ⊢
      clear he0
      have te : (e0v == 0) = false := by simpa using e0
      have tx : (x0 == 1) = false := by simpa using hx
      clear e0 HE1 HE2 HBL
      go_wp2_with (first
        | (refine wpList_store_new (by rfl) 33 (.tmp 6) (.tmp 26) (by rfl) w2 _ orr (by rfl) (by rfl) hos hozz ho1 ?_; rw [← HW3.out]))
      go_quiet (fail)
      have HK4 : Kept [] w (W3.drewN nq) := HK3.out.drewN nq
      have HO4 : (W3.drewN nq).heap[w2.heap.size]? = some (.cells orr 33 (0, 0)) := HO3.out
      clear gc0
      generalize W3.drewN nq = W4 at *
      have HK4 : Hid (Kept [] w W4) := HK4
      have HO4 : Hid (W4.heap[w2.heap.size]? = some (.cells orr 33 (0, 0))) := HO4
      by_cases hmax : xs.length = 65536
      · have tm : ((xs.length : Int) == 65536) = true := by simp; omega
        go_wp2
        go_ret
        exact ⟨rfl, HK4.out⟩
      · have tm : ((xs.length : Int) == 65536) = false := by simp; omega
        have hcp5 := HCP.out W4 HK4.out
        have hw1 : IntKind.u8.wrap n = bn := hbn.symm
        have hw2 : n % 256 = bn := by rw [hbn, IntKind.wrap_u8]
        clear hbn
        go_wp2_with fail
        go_at_call 23
        refine hcp5.mono ?_
        rintro e w5 ⟨rfl, row5, k5⟩
        have HO5 : Hid (OwnB (w5.alloc (.cells #[.int .u8 bn] 5)) W4.heap.size (.slice (some ⟨W4.heap.size, 0, none⟩) xs.length xs.length) xs) := (own_row row5 (by omega)).kept (T := []) ((Kept.refl _ _).alloc _) (by simp)
        have HX5 : Hid (BytesAt (w5.alloc (.cells #[.int .u8 bn] 5)) (.slice (some ⟨w5.heap.size, 0, none⟩) 1 1) [bn]) := (OwnB.one bn).bytes
        have HK5 : Hid (Kept [] W4 (w5.alloc (.cells #[.int .u8 bn] 5))) := k5.alloc _
        have ly : xs.length + [bn].length ≤ 140737488355328 := by simp; omega
        have hb5 : W4.heap.size ≤ (w5.alloc (.cells #[.int .u8 bn] 5)).heap.size := HK5.out.size
        clear hcp5 row5 k5
        go_wp2_with (at_builtin; refine wpList_append_bytes (by rfl) (.tmp 55) (.tmp 58) (by rfl) (by rfl) HO5.out (by rfl) HX5.out ly hb5 ?_; intro v6 w6 ha6)
        have ho6 : OwnB w6 W4.heap.size v6 (xs ++ [bn]) := ha6.own
        have HK6 : Hid (Kept [] W4 w6) := ha6.keep W4 [] HK5.out (fun x hx => Or.inr (World.ownsRow.lt HO5.out x hx).1)
        have hnew6 : ∀ k, v6.ownBlock = some k → W4.heap.size ≤ k := fun k hk => (World.ownsRow.lt ho6 k hk).1
        obtain ⟨a6, c6, hv6, hc6, _, hcell6⟩ := ho6.bytes
        obtain ⟨b6, off6, rfl, hcell6⟩ := hcell6 (by simp)
        subst hv6
        have hb6n : W4.heap.size ≤ b6 := hnew6 b6 rfl
        have hb6 : BytesAt w6 (.slice (some ⟨b6, off6, none⟩) (xs ++ [bn]).length c6) (xs ++ [bn]) := ho6.bytes
        have HB6 : Hid (BytesAt w6 (.slice (some ⟨b6, off6, none⟩) (xs ++ [bn]).length c6) (xs ++ [bn])) := hb6
        obtain ⟨n6, hn6⟩ : ∃ n6, n6 = (xs ++ [bn]).length := ⟨_, rfl⟩
        have hn7 : n6 = xs.length + 1 := by rw [hn6, List.length_append, List.length_singleton]
        have hn61 : (1 : Int) ≤ (n6 : Int) := by omega
        have hpar6 := HP2.out w6 _ (HK4.out.then HK6.out) hb6
        rw [← hn6] at HB6 hpar6 hc6
        rw [← hn6]
        have HN6 : Hid (n6 = (xs ++ [bn]).length) := hn6
        have HN7 : Hid (n6 = xs.length + 1) := hn7
        clear ha6 ho6 hcell6 hb6 HO5 HX5 HK5 hn6 hn7
        go_at_call 9
        refine hpar6.mono ?_
        rintro e w7 ⟨p, rfl, hg7, k7, z7, _, hnw⟩
        have hpz : p.row.toArray.size = 76 := by rw [List.size_toArray]; exact objL_len hg7.com.tree.1 hg7.tag.target.1
        have hps : (Tryd.prog.info? 33).map (·.size) = some p.row.toArray.size := by rw [hpz]; kernel_rfl
        have hpz2 : orr.size = p.row.toArray.size := by rw [hpz]; exact hoz
        have hp1 : p.row.toArray.all (·.oneCell') = true := objL_one hg7
        have HO6 : Hid (w6.heap[w2.heap.size]? = some (.cells orr 33 (0, 0))) := HK6.out.heap HO4.out (by simp)
        have HO7 : Hid (w7.heap[w2.heap.size]? = some (.cells orr 33 (0, 0))) := (HK6.out.then k7).heap HO4.out (by simp)
        have HK7 : Hid (Kept [] w w7) := (HK4.out.then HK6.out).then k7
        have HK8 : Hid (Kept [] w (w7.setRow w2.heap.size p.row.toArray)) := HK7.out.setRowN HS2.out _
        have HO8 : Hid ((w7.setRow w2.heap.size p.row.toArray).heap[w2.heap.size]? = some (.cells p.row.toArray 33 (0, 0))) := setRow_heap _ _ _ _ _ _ HO7.out
        have gc8 := HC0.out _ HK8.out
        have e8 := HE4.out hx hmax
        rw [e8]
        clear hpar6 k7 z7 hg7 hpz
        generalize p.row.toArray = prr at *
        go_wp2_with (first
          | (refine wpList_store_row (by rfl) 33 (.tmp 6) (.tmp 63) (by rfl) w2.heap.size prr (by rfl) (by rfl) 33 _ HO7.out hps hpz2 hp1 ?_))
        go_ret
        exact ⟨rfl, HK8.out⟩
end Go.Proofs.YtnfbiemmdaenpaaDoor
