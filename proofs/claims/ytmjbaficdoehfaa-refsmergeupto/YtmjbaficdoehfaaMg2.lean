/-
  WALKS: strings.Compare, cmp.Compare, cmp.Or, refs.compareStamps, the test that CompactFunc asks.
-/
import Derived.Test.YtmjbaficdoehfaaMg1
import Derived.Deep.RegionHeldLaw
import Derived.Deep.QuietTactic
import Derived.BigQuiet
import Derived.Great.BuildSlice
namespace Go.Proofs.Ytmjbaficdoehfaa
open Go.RowKit Go.Sort

set_option maxHeartbeats 1000000 in
theorem StrCmp_any (xs ys : List Int) (hx : Octs xs) (hy : Octs ys) (w : World) : Calls Try.prog 21 #[.string (strOfNums xs), .string (strOfNums ys)] w fun e w' => e = .returned (.int .i64 (cmpB xs ys)) ∧ w' = w := by
  have hc : Calls Try.prog 34 #[.string (strOfNums xs), .string (strOfNums ys)] w fun e w' => e = .returned (.int .i64 (cmpB xs ys)) ∧ w' = w := by
    have h1 : Lib.compareBytes (strOfNums xs).data.toList (strOfNums ys).data.toList = cmpB xs ys := by
      rw [strOfNums_data, strOfNums_data]
      exact compareBytes_cmpB xs ys hx hy
    generalize strOfNums xs = S at *
    generalize strOfNums ys = T at *
    go_enter Try.func34, Try.ntmps34
    go_wp2
    rw [run_callFunc_extern Try.func42 (by kernel_rfl) (by kernel_rfl) (by kernel_rfl) (e := Extern.BytealgCompare.compare) (by kernel_rfl), Lib.run_compareString, h1]
    simp only [Result.andThen]
    rw [Oper.upon_value]
    go_wp2
    go_ret
    exact ⟨rfl, rfl⟩
  generalize strOfNums xs = S at *
  generalize strOfNums ys = T at *
  generalize cmpB xs ys = z at *
  go_enter Try.func21, Try.ntmps21
  go_wp2_with (go_at_call 34; refine hc.mono ?_; rintro e w' ⟨rfl, hw⟩; subst hw)
  go_ret
  exact ⟨rfl, rfl⟩
theorem isNaN_any (x : Int) (w : World) : Calls Try.prog 35 #[.int .u64 x] w fun e w' => e = .returned (.bool false) ∧ w' = w := by
  go_enter Try.func35, Try.ntmps35
  go_wp2
  go_ret
  exact ⟨by simp, rfl⟩
set_option maxHeartbeats 1000000 in
theorem CmpU_any (x y : Int) (w : World) : Calls Try.prog 22 #[.int .u64 x, .int .u64 y] w fun e w' => e = .returned (.int .i64 (if x < y then -1 else if y < x then 1 else 0)) ∧ w' = w := by
  go_enter Try.func22, Try.ntmps22
  go_wp2_with (go_at_call 35; refine (isNaN_any _ _).mono ?_; rintro e w' ⟨rfl, hw⟩; subst hw)
  all_goals (go_ret; refine ⟨?_, rfl⟩; (repeat' split) <;> first | rfl | (exfalso; omega))
/-- cmp.Or: the first that is not 0. -/
theorem orL_cons (x : Int) (xs : List Int) : orL (x :: xs) = if x = 0 then orL xs else x := by
  unfold orL
  rw [List.find?_cons]
  by_cases h : x = 0
  · subst h; rfl
  · have : (x != 0) = true := by simpa using h
    rw [this, if_neg h]; rfl
set_option maxHeartbeats 1000000 in
theorem Or_any (g : Nat) (x y z : Int) (w : World) (h0 : w.cell? ⟨g, 0, none⟩ = some (.int .i64 x)) (h1 : w.cell? ⟨g, 1, none⟩ = some (.int .i64 y)) (h2 : w.cell? ⟨g, 2, none⟩ = some (.int .i64 z)) :
    Calls Try.prog 20 #[.slice (some ⟨g, 0, none⟩) 3 3] w fun e w' => e = .returned (.int .i64 (orL [x, y, z])) ∧ w' = w := by
  obtain ⟨r, hr⟩ : ∃ r, r = orL [x, y, z] := ⟨_, rfl⟩
  rw [← hr]
  have HR : Hid (r = orL [x, y, z]) := hr
  clear hr
  have HC : Hid (∀ k : Nat, k < 3 → ∃ v, [x, y, z][k]? = some v ∧ w.cell? ⟨g, k, none⟩ = some (.int .i64 v)) := fun k hk => by
    rcases k with _ | _ | _ | k
    · exact ⟨x, rfl, h0⟩
    · exact ⟨y, rfl, h1⟩
    · exact ⟨z, rfl, h2⟩
    · omega
  clear h0 h1 h2
  have HL : Hid ([x, y, z].length = 3) := rfl
  generalize [x, y, z] = L at *
  go_enter Try.func20, Try.ntmps20
  go_wp2
  go_loop [8] (fun s8 => ∃ k : Nat, k ≤ 3 ∧ s8 = .int .i64 k ∧ Hid (orL (L.drop k) = r)) (fun s8 => 3 - (intOf s8).toNat)
  case atStart => exact ⟨0, by omega, rfl, HR.out.symm⟩
  case round =>
    obtain ⟨k, hk, rfl, HN⟩ := hrel
    by_cases hlt : k < 3
    · have t0 : decide ((k : Int) < 3) = true := by simp; omega
      obtain ⟨v, hv, hcell⟩ := HC.out k hlt
      have HV : Hid (orL (L.drop k) = if v = 0 then orL (L.drop (k + 1)) else v) := by
        have h : orL (L.drop k) = if v = 0 then orL (L.drop (k + 1)) else v := by
          have hk2 : k < L.length := by rw [HL.out]; exact hlt
          rw [List.drop_eq_getElem_cons hk2, orL_cons]
          have : L[k] = v := by rw [List.getElem?_eq_getElem hk2] at hv; exact Option.some.inj hv
          rw [this]
        exact h
      have i0 : (0 : Int) ≤ (k : Int) := by omega
      have i1 : (k : Int) < 3 := by omega
      clear hv
      by_cases hz : v = 0
      · subst hz
        go_wp2
        go_round
        case rel => exact ⟨k + 1, by omega, by go_num, by have h := HV.out; rw [if_pos rfl, HN.out] at h; exact h.symm⟩
        case measure => simp [intOf]; omega
      · have t1 : (v != 0) = true := by simpa using hz
        have HF : Hid (r = v) := by have h := HV.out; rw [if_neg hz, HN.out] at h; exact h
        clear hz
        go_wp2
        go_ret
        exact ⟨by rw [HF.out]; rfl, rfl⟩
    · have t0 : decide ((k : Int) < 3) = false := by simp; omega
      have HF : Hid (r = 0) := by
        have h : r = 0 := by rw [← HN.out, List.drop_eq_nil_of_le (by rw [HL.out]; omega)]; rfl
        exact h
      go_wp2
      go_ret
      exact ⟨by rw [HF.out]; rfl, rfl⟩

theorem stampCells {w W : World} {g : Nat} {x : StampE} {t : TypeId} (hb : w.heap[g]? = some (.cells x.row.toArray t (0, 0))) (h : Gr w W) :
    W.cell? ⟨g, 0, none⟩ = some (.string (strOfNums x.name)) ∧ W.cell? ⟨g, 33, none⟩ = some (.int .u64 x.seq) ∧ ∀ i a, x.id[i]? = some a → W.cell? ((⟨g, 1, none⟩ : Addr).add i) = some (.int .u8 a) := by
  have hb' := h.kept.heap hb (by simp)
  refine ⟨?_, ?_, fun i a ha => ?_⟩
  · rw [cell_of_row _ _ _ _ _ _ hb']; exact x.get_name
  · rw [cell_of_row _ _ _ _ _ _ hb']; exact x.get_seq
  · rw [Addr.add_mid, cell_of_row _ _ _ _ _ _ hb']; exact x.get_id i a ha
theorem tri_new (w : World) (a b c : Value) (e : TypeId) : (w.alloc (.cells #[a, b, c] e)).cell? ⟨w.heap.size, 0, none⟩ = some a ∧ (w.alloc (.cells #[a, b, c] e)).cell? ⟨w.heap.size, 1, none⟩ = some b ∧ (w.alloc (.cells #[a, b, c] e)).cell? ⟨w.heap.size, 2, none⟩ = some c := by
  have hb := heap_alloc_new w (.cells #[a, b, c] e)
  exact ⟨by rw [cell_of_row _ _ _ _ _ _ hb]; rfl, by rw [cell_of_row _ _ _ _ _ _ hb]; rfl, by rw [cell_of_row _ _ _ _ _ _ hb]; rfl⟩
set_option maxHeartbeats 1500000 in
set_option maxRecDepth 100000 in
/-- compareStamps tells which stamp is first. -/
theorem cmpStamps_any (x y : StampE) (W : World) : Calls Try.prog 12 #[.agg x.row.toArray, .agg y.row.toArray] W fun e w' => e = .returned (.int .i64 (cmpS x y)) ∧ Gr W w' := by
  obtain ⟨w2, hw2⟩ : ∃ w2, w2 = (W.alloc (.cells x.row.toArray 32)).alloc (.cells y.row.toArray 32) := ⟨_, rfl⟩
  have HW : Hid (w2 = (W.alloc (.cells x.row.toArray 32)).alloc (.cells y.row.toArray 32)) := hw2
  have g2 : Gr W w2 := by rw [hw2]; exact ((Gr.refl W).alloc _).alloc _
  have hb1 : w2.heap[W.heap.size]? = some (.cells x.row.toArray 32 (0, 0)) := by
    rw [hw2, Below.heap_alloc _ _ _ (by rw [World.size_alloc]; omega)]
    exact heap_alloc_new W _
  have hb2 : w2.heap[W.heap.size + 1]? = some (.cells y.row.toArray 32 (0, 0)) := by
    have := heap_alloc_new (W.alloc (.cells x.row.toArray 32)) (.cells y.row.toArray 32)
    rw [World.size_alloc] at this
    rw [hw2]
    exact this
  have HX : Hid (∀ V, Gr w2 V → V.cell? ⟨W.heap.size, 0, none⟩ = some (.string (strOfNums x.name)) ∧ V.cell? ⟨W.heap.size, 33, none⟩ = some (.int .u64 x.seq)) := fun V h => ⟨(stampCells hb1 h).1, (stampCells hb1 h).2.1⟩
  have HY : Hid (∀ V, Gr w2 V → V.cell? ⟨W.heap.size + 1, 0, none⟩ = some (.string (strOfNums y.name)) ∧ V.cell? ⟨W.heap.size + 1, 33, none⟩ = some (.int .u64 y.seq)) := fun V h => ⟨(stampCells hb2 h).1, (stampCells hb2 h).2.1⟩
  have HN : Hid (∀ V, Calls Try.prog 21 #[.string (strOfNums x.name), .string (strOfNums y.name)] V fun e w' => e = .returned (.int .i64 (cmpB x.name y.name)) ∧ w' = V) := fun V => StrCmp_any _ _ x.on y.on V
  have HB : Hid (∀ V, Gr w2 V → Calls Try.prog 23 #[.slice (some ⟨W.heap.size + 1, 1, none⟩) 32 32, .slice (some ⟨W.heap.size, 1, none⟩) 32 32] V fun e w' => e = .returned (.int .i64 (cmpB y.id x.id)) ∧ w' = V) := fun V h => by
    have := Compare_any ⟨W.heap.size + 1, 1, none⟩ ⟨W.heap.size, 1, none⟩ 32 32 y.id x.id V (stampCells hb2 h).2.2 (stampCells hb1 h).2.2 y.gi.2 x.gi.2
    rw [x.gi.1, y.gi.1] at this
    exact this
  have HU : Hid (∀ V, Calls Try.prog 22 #[.int .u64 y.seq, .int .u64 x.seq] V fun e w' => e = .returned (.int .i64 (if y.seq < x.seq then -1 else if x.seq < y.seq then 1 else 0)) ∧ w' = V) := fun V => CmpU_any _ _ V
  have hsz : w2.heap.size = W.heap.size + 2 := by rw [hw2]; simp
  have HO : Hid (Calls Try.prog 20 #[.slice (some ⟨W.heap.size + 2, 0, none⟩) 3 3] (w2.alloc (.cells #[.int .i64 (cmpB x.name y.name), .int .i64 (if y.seq < x.seq then -1 else if x.seq < y.seq then 1 else 0), .int .i64 (cmpB y.id x.id)] 3)).drew fun e w' => e = .returned (.int .i64 (cmpS x y)) ∧ w' = (w2.alloc (.cells #[.int .i64 (cmpB x.name y.name), .int .i64 (if y.seq < x.seq then -1 else if x.seq < y.seq then 1 else 0), .int .i64 (cmpB y.id x.id)] 3)).drew) := by
    obtain ⟨c1, c2, c3⟩ := tri_new w2 (.int .i64 (cmpB x.name y.name)) (.int .i64 (if y.seq < x.seq then -1 else if x.seq < y.seq then 1 else 0)) (.int .i64 (cmpB y.id x.id)) 3
    rw [hsz] at c1 c2 c3
    have := Or_any (W.heap.size + 2) _ _ _ (w2.alloc (.cells #[.int .i64 (cmpB x.name y.name), .int .i64 (if y.seq < x.seq then -1 else if x.seq < y.seq then 1 else 0), .int .i64 (cmpB y.id x.id)] 3)).drew c1 c2 c3
    rw [cmpS_or] at this
    exact this
  have HSame : Hid (x = y → cmpS x y = 0) := fun h => by subst h; unfold cmpS; rw [if_neg (cmpB_self _), if_neg (cmpB_self _), if_neg (by omega), if_neg (by omega), cmpB_is, if_neg (cmpB_self _), if_neg (cmpB_self _)]
  have s1 : (Try.prog.info? 32).map (·.size) = some x.row.toArray.size := by rw [List.size_toArray, x.row_len]; exact stampSize
  have s2 : (Try.prog.info? 32).map (·.size) = some y.row.toArray.size := by rw [List.size_toArray, y.row_len]; exact stampSize
  have G2 : Hid (Gr W w2) := g2
  have HB1 : Hid (((W.alloc (.cells x.row.toArray 32)).alloc (.cells y.row.toArray 32)).heap[W.heap.size]? = some (.cells x.row.toArray 32 (0, 0))) := by rw [← hw2]; exact hb1
  have HB2 : Hid (((W.alloc (.cells x.row.toArray 32)).alloc (.cells y.row.toArray 32)).heap[W.heap.size + 1]? = some (.cells y.row.toArray 32 (0, 0))) := by rw [← hw2]; exact hb2
  have HEQ : Hid (∀ V, (Op.equalIn 10000 32 (.agg x.row.toArray) (.agg y.row.toArray)).run Try.prog V = .ok (decide (x = y)) V) := fun V => stampTwo x y V
  have HC : Hid (∀ V, Gr w2 V → Gr w2 V ∧ V.cell? ⟨W.heap.size, 0, none⟩ = some (.string (strOfNums x.name)) ∧ V.cell? ⟨W.heap.size, 33, none⟩ = some (.int .u64 x.seq) ∧ V.cell? ⟨W.heap.size + 1, 0, none⟩ = some (.string (strOfNums y.name)) ∧ V.cell? ⟨W.heap.size + 1, 33, none⟩ = some (.int .u64 y.seq)) := fun V h => ⟨h, (HX.out V h).1, (HX.out V h).2, (HY.out V h).1, (HY.out V h).2⟩
  clear hb1 hb2 hw2 g2 HX HY
  generalize (if y.seq < x.seq then (-1 : Int) else if x.seq < y.seq then 1 else 0) = z2 at *
  generalize x.row.toArray = c1 at *
  generalize y.row.toArray = c2 at *
  generalize strOfNums x.name = A at *
  generalize strOfNums y.name = B at *
  have has := Try.underlying32
  by_cases hxy : x = y
  · have hd : decide (x = y) = true := decide_eq_true hxy
    rw [hd] at HEQ
    have HZ : Hid (cmpS x y = 0) := HSame.out hxy
    clear hd hxy HSame HO HB HN HC HU
    go_enter Try.func12, Try.ntmps12
    go_wp2_with (first
      | (refine wpList_load_row (by rfl) 32 (.tmp 2) (by rfl) W.heap.size (by rfl) 32 c1 (0, 0) _ HB1.out Try.underlying32 rfl s1 ?_)
      | (refine wpList_load_row (by rfl) 32 (.tmp 3) (by rfl) (W.heap.size + 1) (by rfl) 32 c2 (0, 0) _ HB2.out Try.underlying32 rfl s2 ?_)
      | (refine wpList_eqlS (by rfl) (.tmp 5) (.tmp 6) _ (by rfl) c1 c2 (by rfl) (by rfl) _ HEQ.out ?_))
    go_ret
    exact ⟨by rw [HZ.out]; rfl, by rw [← HW.out]; exact G2.out⟩
  · have hd : decide (x = y) = false := decide_eq_false hxy
    rw [hd] at HEQ
    clear hd hxy HSame
    generalize cmpS x y = r at *
    generalize x.seq = m at *
    generalize y.seq = n at *
    generalize cmpB x.name y.name = z1 at *
    generalize cmpB y.id x.id = z3 at *
    go_enter Try.func12, Try.ntmps12
    go_wp2_with (first
      | (refine wpList_load_row (by rfl) 32 (.tmp 2) (by rfl) W.heap.size (by rfl) 32 c1 (0, 0) _ HB1.out Try.underlying32 rfl s1 ?_)
      | (refine wpList_load_row (by rfl) 32 (.tmp 3) (by rfl) (W.heap.size + 1) (by rfl) 32 c2 (0, 0) _ HB2.out Try.underlying32 rfl s2 ?_)
      | (refine wpList_eqlS (by rfl) (.tmp 5) (.tmp 6) _ (by rfl) c1 c2 (by rfl) (by rfl) _ HEQ.out ?_))
    rw [← HW.out]
    go_region_held_law (fun V => Gr w2 V ∧ V.cell? ⟨W.heap.size, 0, none⟩ = some (.string A) ∧ V.cell? ⟨W.heap.size, 33, none⟩ = some (.int .u64 m) ∧ V.cell? ⟨W.heap.size + 1, 0, none⟩ = some (.string B) ∧ V.cell? ⟨W.heap.size + 1, 33, none⟩ = some (.int .u64 n)) (exact HC.out _ (by first | exact (Gr.refl w2).drew | exact (Gr.refl w2).drew.alloc _)) (first | (go_simp; first
      | (go_at_call 21; refine (HN.out _).mono ?_; rintro e w7 ⟨rfl, hw7⟩; subst hw7; dsimp only)
      | (go_at_call 22; refine (HU.out _).mono ?_; rintro e w7 ⟨rfl, hw7⟩; subst hw7; dsimp only)
      | (go_at_call 23; refine (HB.out _ (Gr.refl w2).drew).mono ?_; rintro e w7 ⟨rfl, hw7⟩; subst hw7; dsimp only)
      | (go_at_call 20; refine HO.out.mono ?_; rintro e w7 ⟨rfl, hw7⟩; subst hw7; dsimp only)))
    go_wp2
    go_ret
    exact ⟨rfl, G2.out.trans (((Gr.refl w2).alloc _).drew)⟩

set_option maxHeartbeats 1000000 in
set_option maxRecDepth 100000 in
/-- The test that CompactFunc asks: of one name? -/
theorem oneName_any (x y : StampE) (W : World) : Calls Try.prog 14 #[.agg x.row.toArray, .agg y.row.toArray] W fun e w' => e = .returned (.bool (decide (x.name = y.name))) ∧ Gr W w' := by
  obtain ⟨w2, hw2⟩ : ∃ w2, w2 = (W.alloc (.cells x.row.toArray 32)).alloc (.cells y.row.toArray 32) := ⟨_, rfl⟩
  have HW : Hid (w2 = (W.alloc (.cells x.row.toArray 32)).alloc (.cells y.row.toArray 32)) := hw2
  have g2 : Gr W w2 := by rw [hw2]; exact ((Gr.refl W).alloc _).alloc _
  have hb1 : w2.heap[W.heap.size]? = some (.cells x.row.toArray 32 (0, 0)) := by
    rw [hw2, Below.heap_alloc _ _ _ (by rw [World.size_alloc]; omega)]
    exact heap_alloc_new W _
  have hb2 : w2.heap[W.heap.size + 1]? = some (.cells y.row.toArray 32 (0, 0)) := by
    have := heap_alloc_new (W.alloc (.cells x.row.toArray 32)) (.cells y.row.toArray 32)
    rw [World.size_alloc] at this
    rw [hw2]
    exact this
  have C1 := (stampCells hb1 (Gr.refl w2)).1
  have C2 := (stampCells hb2 (Gr.refl w2)).1
  rw [hw2] at C1 C2
  have hd : ((strOfNums x.name).toList == (strOfNums y.name).toList) = decide (x.name = y.name) := str_lists x.on y.on
  have G2 : Hid (Gr W w2) := g2
  clear hb1 hb2 hw2 g2
  generalize decide (x.name = y.name) = r at *
  generalize x.row.toArray = c1 at *
  generalize y.row.toArray = c2 at *
  generalize strOfNums x.name = A at *
  generalize strOfNums y.name = B at *
  have has := Try.underlying32
  go_enter Try.func14, Try.ntmps14
  go_wp2
  go_ret
  exact ⟨rfl, by rw [← HW.out]; exact G2.out⟩
end Go.Proofs.Ytmjbaficdoehfaa
