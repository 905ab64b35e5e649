/-
  WALKS: satchelref0.EqStamps, satchellaw14's have and stamps.
-/
import Derived.Test.YtmjbaficdoehfaaMg10
namespace Go.Proofs.Ytmjbaficdoehfaa
open Go.RowKit Go.Sort

theorem neqS_at {C : World → Prop} {K : Act → Prop} {o : Oper} {a : Act} (p q : Operand) (rt : TypeId) (ho : o.op = .binOp .neq 32 p q rt) (A B : Array Value) (hx : a.eval p = .agg A) (hy : a.eval q = .agg B) (r : Bool)
    (hr : ∀ W, (Op.equalIn 10000 32 (.agg A) (.agg B)).run Try.prog W = .ok r W) (hK : K (a.put o.dst (.bool !r))) : o.quiet Try.prog a C K := by
  refine val_at (.bool !r) (fun W => ?_) hK
  have hm : Try.prog.eqGuardType Try.prog.depth 32 = false := by kernel_rfl
  have h2 : Sem.run Try.prog (do eqGuard BinOp.neq 32 p q (Value.agg A) (Value.agg B); binOp BinOp.neq 32 (Value.agg A) (Value.agg B)) W = .ok (.bool !r) W := by
    rw [Sem.run_bind, run_eqGuard_agg W .neq 32 p q A B hm, Result.andThen_ok, run_neq_struct W 32 A B, hr]
    rfl
  unfold execOp
  simp only [ho, hx, hy]
  rw [Sem.run_bind, h2]
  rfl
theorem eqlS_at {C : World → Prop} {K : Act → Prop} {o : Oper} {a : Act} (p q : Operand) (rt : TypeId) (ho : o.op = .binOp .eql 32 p q rt) (A B : Array Value) (hx : a.eval p = .agg A) (hy : a.eval q = .agg B) (r : Bool)
    (hr : ∀ W, (Op.equalIn 10000 32 (.agg A) (.agg B)).run Try.prog W = .ok r W) (hK : K (a.put o.dst (.bool r))) : o.quiet Try.prog a C K := by
  refine val_at (.bool r) (fun W => ?_) hK
  have hm : Try.prog.eqGuardType Try.prog.depth 32 = false := by kernel_rfl
  have h2 : Sem.run Try.prog (do eqGuard BinOp.eql 32 p q (Value.agg A) (Value.agg B); binOp BinOp.eql 32 (Value.agg A) (Value.agg B)) W = .ok (.bool r) W := by
    rw [Sem.run_bind, run_eqGuard_agg W .eql 32 p q A B hm, Result.andThen_ok, run_eql_struct W 32 A B, hr]
    rfl
  unfold execOp
  simp only [ho, hx, hy]
  rw [Sem.run_bind, h2]
  rfl
theorem StampsAt.at {w : World} {ao : Option Addr} {n cap : Nat} {L : List StampE} (h : StampsAt w (.slice ao n cap) L) {k : Nat} {x : StampE} (hx : L[k]? = some x) : ∃ b off, ao = some ⟨b, off, none⟩ ∧ ∀ W, Kept [] w W → W.rangeAt b (off + k * 34) x.row := by
  obtain ⟨_, _, e, _, _, _, hc⟩ := h
  obtain ⟨b, off, hb, hh⟩ := hc (fun e => by rw [List.map_eq_nil_iff] at e; rw [e] at hx; simp at hx)
  injection e with e1 e2 e3
  exact ⟨b, off, e1.trans hb, fun W q => range_kept (hh k x.row (by rw [List.getElem?_map, hx]; rfl)) q (by simp)⟩
theorem StampsAt.is {w : World} {v : Value} {L : List StampE} (h : StampsAt w v L) : ∃ ao cap, v = .slice ao L.length cap ∧ L.length ≤ cap ∧ L.length ≤ 140737488351232 := by
  obtain ⟨ao, cap, e, h1, _, h2, _⟩ := h
  rw [List.length_map] at e h1 h2
  exact ⟨ao, cap, e, h1, h2⟩
theorem eq_of_gets {L M : List StampE} (hl : L.length = M.length) (h : ∀ k, k < L.length → L[k]? = M[k]?) : L = M := by
  apply List.ext_getElem?
  intro k
  by_cases hk : k < L.length
  · exact h k hk
  · rw [List.getElem?_eq_none (by omega), List.getElem?_eq_none (by omega)]
set_option maxRecDepth 100000 in
set_option maxHeartbeats 4000000 in
theorem EqStamps_any (va vb : Value) (L M : List StampE) (w : World) (ha : StampsAt w va L) (hb : StampsAt w vb M) :
    Calls Try.prog 6 #[va, vb] w fun e w' => e = .returned (.bool (decide (L = M))) ∧ Kept [] w w' := by
  have HA : Hid (∀ W, Kept [] w W → StampsAt W va L) := fun W k => ha.kept k
  have HB : Hid (∀ W, Kept [] w W → StampsAt W vb M) := fun W k => hb.kept k
  obtain ⟨a1, c1, rfl, _, hl1⟩ := ha.is
  obtain ⟨a2, c2, rfl, _, hl2⟩ := hb.is
  have has := Try.underlying32
  obtain ⟨r, hr⟩ : ∃ r, r = decide (L = M) := ⟨_, rfl⟩
  rw [← hr]
  have HR : Hid (r = decide (L = M)) := hr
  clear ha hb hr
  by_cases hlen : L.length = M.length
  · have t1 : ((L.length : Int) != (M.length : Int)) = false := by rw [hlen]; simp
    rw [← hlen] at HB ⊢
    have HLN : Hid (L.length = M.length) := hlen
    clear t1 hlen hl2
    go_enter Try.func6, Try.ntmps6
    go_wp2
    go_loopw [5] (fun s5 wr => ∃ k : Nat, k ≤ L.length ∧ s5 = .int .i64 k ∧ Hid ((∀ j, j < k → L[j]? = M[j]?) ∧ Kept [] w wr)) (fun s5 _ => L.length - (intOf s5).toNat)
    case atStart => exact ⟨0, Nat.zero_le _, rfl, fun j h => absurd h (by omega), Kept.refl _ _⟩
    case round =>
      obtain ⟨k, hk, rfl, HI⟩ := hrel
      by_cases hlt : k < L.length
      · have i0 : (k : Int) < (L.length : Int) := by omega
        have i1 : (0 : Int) ≤ (k : Int) := by omega
        have t0 : decide ((k : Int) < (L.length : Int)) = true := decide_eq_true i0
        obtain ⟨x, hx⟩ : ∃ x, L[k]? = some x := ⟨_, List.getElem?_eq_getElem hlt⟩
        obtain ⟨y, hy⟩ : ∃ y, M[k]? = some y := ⟨_, List.getElem?_eq_getElem (by rw [← HLN.out]; exact hlt)⟩
        obtain ⟨b1, o1, rfl, hr1⟩ := (HA.out wr HI.out.2).at hx
        obtain ⟨b2, o2, rfl, hr2⟩ := (HB.out wr HI.out.2).at hy
        have H1 : Hid (∀ W, Kept [] wr W → W.rangeAt b1 (o1 + k * 34) x.row) := hr1
        have H2 : Hid (∀ W, Kept [] wr W → W.rangeAt b2 (o2 + k * 34) y.row) := hr2
        have hs1 : (Try.prog.info? 32).map (·.size) = some x.row.length := by rw [x.row_len]; exact stampSize
        have hs2 : (Try.prog.info? 32).map (·.size) = some y.row.length := by rw [y.row_len]; exact stampSize
        have HEQ0 : Hid (∀ W, (Op.equalIn 10000 32 (.agg x.row.toArray) (.agg y.row.toArray)).run Try.prog W = .ok (decide (x = y)) W) := fun W => stampTwo x y W
        clear hr1 hr2
        by_cases hxy : x = y
        · have HN : Hid (∀ j, j < k + 1 → L[j]? = M[j]?) := fun j hj => by
            by_cases e : j = k
            · subst e; rw [hx, hy, hxy]
            · exact HI.out.1 j (by omega)
          have HEQ : Hid (∀ W, (Op.equalIn 10000 32 (.agg x.row.toArray) (.agg y.row.toArray)).run Try.prog W = .ok true W) := by
            have h := HEQ0.out
            rw [decide_eq_true hxy] at h
            exact h
          clear HEQ0 hxy hx hy
          generalize x.row = xr at *
          generalize y.row = yr at *
          go_wp2_with fail
          refine region_quiet (Kept [] wr) (by kernel_rfl) (by kernel_rfl) (Kept.refl [] wr).drew ?_
          with_reducible refine wpQuiet_step ?_
          intro K hK
          rw [if_pos (by kernel_rfl)]
          refine move_at (.tmp 0) rfl (.slice (some ⟨b1, o1, none⟩) L.length c1) rfl (hK _ ?_)
          clear hK K
          simp only [Act.put, List.setIfInBounds_toArray, List.set_cons_zero, List.set_cons_succ]
          with_reducible refine wpQuiet_step ?_
          intro K hK
          rw [if_pos (by kernel_rfl)]
          refine move_at (.tmp 5) rfl (.int .i64 (k : Int)) rfl (hK _ ?_)
          clear hK K
          simp only [Act.put, List.setIfInBounds_toArray, List.set_cons_zero, List.set_cons_succ]
          with_reducible refine wpQuiet_step ?_
          intro K hK
          rw [if_pos (by kernel_rfl)]
          refine val_at (.pointer (some ⟨b1, o1 + k * 34, none⟩)) (fun W => by go_simp) (hK _ ?_)
          clear hK K
          simp only [Act.put, List.setIfInBounds_toArray, List.set_cons_zero, List.set_cons_succ]
          with_reducible refine wpQuiet_step ?_
          intro K hK
          rw [if_pos (by kernel_rfl)]
          refine row_at 32 (.tmp 19) rfl b1 (o1 + k * 34) rfl xr _ H1.out has rfl hs1 (hK _ ?_)
          clear hK K
          simp only [Act.put, List.setIfInBounds_toArray, List.set_cons_zero, List.set_cons_succ]
          with_reducible refine wpQuiet_step ?_
          intro K hK
          rw [if_pos (by kernel_rfl)]
          refine move_at (.tmp 1) rfl (.slice (some ⟨b2, o2, none⟩) L.length c2) rfl (hK _ ?_)
          clear hK K
          simp only [Act.put, List.setIfInBounds_toArray, List.set_cons_zero, List.set_cons_succ]
          with_reducible refine wpQuiet_step ?_
          intro K hK
          rw [if_pos (by kernel_rfl)]
          refine move_at (.tmp 5) rfl (.int .i64 (k : Int)) rfl (hK _ ?_)
          clear hK K
          simp only [Act.put, List.setIfInBounds_toArray, List.set_cons_zero, List.set_cons_succ]
          with_reducible refine wpQuiet_step ?_
          intro K hK
          rw [if_pos (by kernel_rfl)]
          refine val_at (.pointer (some ⟨b2, o2 + k * 34, none⟩)) (fun W => by go_simp) (hK _ ?_)
          clear hK K
          simp only [Act.put, List.setIfInBounds_toArray, List.set_cons_zero, List.set_cons_succ]
          with_reducible refine wpQuiet_step ?_
          intro K hK
          rw [if_pos (by kernel_rfl)]
          refine row_at 32 (.tmp 23) rfl b2 (o2 + k * 34) rfl yr _ H2.out has rfl hs2 (hK _ ?_)
          clear hK K
          simp only [Act.put, List.setIfInBounds_toArray, List.set_cons_zero, List.set_cons_succ]
          with_reducible refine wpQuiet_step ?_
          intro K hK
          rw [if_pos (by kernel_rfl)]
          refine neqS_at (.tmp 20) (.tmp 24) _ rfl xr.toArray yr.toArray rfl rfl true HEQ.out (hK _ ?_)
          clear hK K
          simp only [Act.put, List.setIfInBounds_toArray, List.set_cons_zero, List.set_cons_succ]
          refine wpQuiet_nil fun w3 hk3 => ?_
          have HK3 : Hid (Kept [] w w3) := HI.out.2.then hk3
          clear hk3 H1 H2 HEQ
          go_wp2
          go_roundw
          case rel => exact ⟨k + 1, by omega, by go_num, HN.out, HK3.out⟩
          case measure => simp [intOf]; omega
        · have HF : Hid (r = false) := by
            have h : r = false := by
              rw [HR.out]
              refine decide_eq_false fun e => hxy ?_
              rw [e, hy] at hx
              exact (Option.some.inj hx).symm
            exact h
          have HEQ : Hid (∀ W, (Op.equalIn 10000 32 (.agg x.row.toArray) (.agg y.row.toArray)).run Try.prog W = .ok false W) := by
            have h := HEQ0.out
            rw [decide_eq_false hxy] at h
            exact h
          clear HEQ0 hxy hx hy
          generalize x.row = xr at *
          generalize y.row = yr at *
          go_wp2_with fail
          refine region_quiet (Kept [] wr) (by kernel_rfl) (by kernel_rfl) (Kept.refl [] wr).drew ?_
          with_reducible refine wpQuiet_step ?_
          intro K hK
          rw [if_pos (by kernel_rfl)]
          refine move_at (.tmp 0) rfl (.slice (some ⟨b1, o1, none⟩) L.length c1) rfl (hK _ ?_)
          clear hK K
          simp only [Act.put, List.setIfInBounds_toArray, List.set_cons_zero, List.set_cons_succ]
          with_reducible refine wpQuiet_step ?_
          intro K hK
          rw [if_pos (by kernel_rfl)]
          refine move_at (.tmp 5) rfl (.int .i64 (k : Int)) rfl (hK _ ?_)
          clear hK K
          simp only [Act.put, List.setIfInBounds_toArray, List.set_cons_zero, List.set_cons_succ]
          with_reducible refine wpQuiet_step ?_
          intro K hK
          rw [if_pos (by kernel_rfl)]
          refine val_at (.pointer (some ⟨b1, o1 + k * 34, none⟩)) (fun W => by go_simp) (hK _ ?_)
          clear hK K
          simp only [Act.put, List.setIfInBounds_toArray, List.set_cons_zero, List.set_cons_succ]
          with_reducible refine wpQuiet_step ?_
          intro K hK
          rw [if_pos (by kernel_rfl)]
          refine row_at 32 (.tmp 19) rfl b1 (o1 + k * 34) rfl xr _ H1.out has rfl hs1 (hK _ ?_)
          clear hK K
          simp only [Act.put, List.setIfInBounds_toArray, List.set_cons_zero, List.set_cons_succ]
          with_reducible refine wpQuiet_step ?_
          intro K hK
          rw [if_pos (by kernel_rfl)]
          refine move_at (.tmp 1) rfl (.slice (some ⟨b2, o2, none⟩) L.length c2) rfl (hK _ ?_)
          clear hK K
          simp only [Act.put, List.setIfInBounds_toArray, List.set_cons_zero, List.set_cons_succ]
          with_reducible refine wpQuiet_step ?_
          intro K hK
          rw [if_pos (by kernel_rfl)]
          refine move_at (.tmp 5) rfl (.int .i64 (k : Int)) rfl (hK _ ?_)
          clear hK K
          simp only [Act.put, List.setIfInBounds_toArray, List.set_cons_zero, List.set_cons_succ]
          with_reducible refine wpQuiet_step ?_
          intro K hK
          rw [if_pos (by kernel_rfl)]
          refine val_at (.pointer (some ⟨b2, o2 + k * 34, none⟩)) (fun W => by go_simp) (hK _ ?_)
          clear hK K
          simp only [Act.put, List.setIfInBounds_toArray, List.set_cons_zero, List.set_cons_succ]
          with_reducible refine wpQuiet_step ?_
          intro K hK
          rw [if_pos (by kernel_rfl)]
          refine row_at 32 (.tmp 23) rfl b2 (o2 + k * 34) rfl yr _ H2.out has rfl hs2 (hK _ ?_)
          clear hK K
          simp only [Act.put, List.setIfInBounds_toArray, List.set_cons_zero, List.set_cons_succ]
          with_reducible refine wpQuiet_step ?_
          intro K hK
          rw [if_pos (by kernel_rfl)]
          refine neqS_at (.tmp 20) (.tmp 24) _ rfl xr.toArray yr.toArray rfl rfl false HEQ.out (hK _ ?_)
          clear hK K
          simp only [Act.put, List.setIfInBounds_toArray, List.set_cons_zero, List.set_cons_succ]
          refine wpQuiet_nil fun w3 hk3 => ?_
          have HK3 : Hid (Kept [] w w3) := HI.out.2.then hk3
          clear hk3 H1 H2 HEQ
          go_wp2
          go_ret
          exact ⟨by rw [HF.out]; rfl, HK3.out⟩
      · have t0 : decide ((k : Int) < (L.length : Int)) = false := decide_eq_false (by omega)
        have t0' : ¬ ((k : Int) < (L.length : Int)) := by omega
        have HF : Hid (r = true) := by
          have h : r = true := by rw [HR.out]; exact decide_eq_true (eq_of_gets HLN.out fun j hj => HI.out.1 j (by omega))
          exact h
        go_wp2
        go_ret
        exact ⟨by rw [HF.out]; rfl, HI.out.2⟩
  · have t1 : ((L.length : Int) != (M.length : Int)) = true := by simp; omega
    have HF : Hid (r = false) := by
      have h : r = false := by rw [HR.out]; exact decide_eq_false fun e => hlen (by rw [e])
      exact h
    have t1' : ¬ ((L.length : Int) = (M.length : Int)) := by omega
    go_enter Try.func6, Try.ntmps6
    go_wp2
    go_ret
    exact ⟨by rw [HF.out]; rfl, Kept.refl _ _⟩
set_option maxRecDepth 100000 in
set_option maxHeartbeats 4000000 in
theorem have_any (v : Value) (L : List StampE) (x : StampE) (w : World) (hv : StampsAt w v L) :
    Calls Try.prog 7 #[v, .agg x.row.toArray] w fun e w' => e = .returned (.bool (decide (x ∈ L))) ∧ Kept [] w w' := by
  have HA : Hid (∀ W, Kept [] w W → StampsAt W v L) := fun W k => hv.kept k
  obtain ⟨a1, c1, rfl, _, hl1⟩ := hv.is
  have has := Try.underlying32
  obtain ⟨r, hr⟩ : ∃ r, r = decide (x ∈ L) := ⟨_, rfl⟩
  rw [← hr]
  have HR : Hid (r = decide (x ∈ L)) := hr
  have HX0 : Hid (∀ W, Kept [] (w.alloc (.cells x.row.toArray 32)) W → W.rangeAt w.heap.size 0 x.row) := fun W q => range_kept (range_new w x.row 32) q (by simp)
  have hs2 : (Try.prog.info? 32).map (·.size) = some x.row.length := by rw [x.row_len]; exact stampSize
  have hsA : x.row.toArray.size = 34 := by rw [List.size_toArray, x.row_len]
  have HEQ0 : Hid (∀ y : StampE, ∀ W, (Op.equalIn 10000 32 (.agg y.row.toArray) (.agg x.row.toArray)).run Try.prog W = .ok (decide (y = x)) W) := fun y W => stampTwo y x W
  clear hv hr
  generalize x.row = xr at *
  obtain ⟨W1, hW1⟩ : ∃ W1, W1 = w.alloc (.cells xr.toArray 32) := ⟨_, rfl⟩
  have HW1 : Hid (W1 = w.alloc (.cells xr.toArray 32)) := hW1
  have HK1 : Hid (Kept [] w W1) := by rw [hW1]; exact (Kept.refl [] w).alloc _
  rw [← hW1] at HX0
  clear hW1
  go_enter Try.func7, Try.ntmps7
  go_wp2_with fail
  rw [← HW1.out]
  go_loopw [5] (fun s5 wr => ∃ k : Nat, k ≤ L.length ∧ s5 = .int .i64 k ∧ Hid ((∀ j y, j < k → L[j]? = some y → y ≠ x) ∧ Kept [] W1 wr)) (fun s5 _ => L.length - (intOf s5).toNat)
  case atStart => exact ⟨0, Nat.zero_le _, rfl, fun j y h => absurd h (by omega), Kept.refl _ _⟩
  case round =>
    obtain ⟨k, hk, rfl, HI⟩ := hrel
    have HKw : Hid (Kept [] w wr) := HK1.out.then HI.out.2
    by_cases hlt : k < L.length
    · have i0 : (k : Int) < (L.length : Int) := by omega
      have i1 : (0 : Int) ≤ (k : Int) := by omega
      have t0 : decide ((k : Int) < (L.length : Int)) = true := decide_eq_true i0
      obtain ⟨y, hy⟩ : ∃ y, L[k]? = some y := ⟨_, List.getElem?_eq_getElem hlt⟩
      obtain ⟨b1, o1, rfl, hr1⟩ := (HA.out wr HKw.out).at hy
      have H1 : Hid (∀ W, Kept [] wr W → W.rangeAt b1 (o1 + k * 34) y.row) := hr1
      have H2 : Hid (∀ W, Kept [] wr W → W.rangeAt w.heap.size 0 xr) := fun W q => HX0.out W (HI.out.2.then q)
      have hs1 : (Try.prog.info? 32).map (·.size) = some y.row.length := by rw [y.row_len]; exact stampSize
      clear hr1
      by_cases hxy : y = x
      · have HF : Hid (r = true) := by
          have h : r = true := by rw [HR.out]; exact decide_eq_true (hxy ▸ List.mem_of_getElem? hy)
          exact h
        have HEQ : Hid (∀ W, (Op.equalIn 10000 32 (.agg y.row.toArray) (.agg xr.toArray)).run Try.prog W = .ok true W) := by
          have h := HEQ0.out y
          rw [decide_eq_true hxy] at h
          exact h
        clear hxy hy
        generalize y.row = yr at *
        go_wp2_with fail
        refine region_quiet (Kept [] wr) (by kernel_rfl) (by kernel_rfl) (Kept.refl [] wr).drew ?_
        with_reducible refine wpQuiet_step ?_
        intro K hK
        rw [if_pos (by kernel_rfl)]
        refine move_at (.tmp 0) rfl (.slice (some ⟨b1, o1, none⟩) L.length c1) rfl (hK _ ?_)
        clear hK K
        simp only [Act.put, List.setIfInBounds_toArray, List.set_cons_zero, List.set_cons_succ]
        with_reducible refine wpQuiet_step ?_
        intro K hK
        rw [if_pos (by kernel_rfl)]
        refine move_at (.tmp 5) rfl (.int .i64 (k : Int)) rfl (hK _ ?_)
        clear hK K
        simp only [Act.put, List.setIfInBounds_toArray, List.set_cons_zero, List.set_cons_succ]
        with_reducible refine wpQuiet_step ?_
        intro K hK
        rw [if_pos (by kernel_rfl)]
        refine val_at (.pointer (some ⟨b1, o1 + k * 34, none⟩)) (fun W => by go_simp) (hK _ ?_)
        clear hK K
        simp only [Act.put, List.setIfInBounds_toArray, List.set_cons_zero, List.set_cons_succ]
        with_reducible refine wpQuiet_step ?_
        intro K hK
        rw [if_pos (by kernel_rfl)]
        refine row_at 32 (.tmp 14) rfl b1 (o1 + k * 34) rfl yr _ H1.out has rfl hs1 (hK _ ?_)
        clear hK K
        simp only [Act.put, List.setIfInBounds_toArray, List.set_cons_zero, List.set_cons_succ]
        with_reducible refine wpQuiet_step ?_
        intro K hK
        rw [if_pos (by kernel_rfl)]
        refine row_at 32 (.tmp 3) rfl w.heap.size 0 rfl xr _ H2.out has rfl hs2 (hK _ ?_)
        clear hK K
        simp only [Act.put, List.setIfInBounds_toArray, List.set_cons_zero, List.set_cons_succ]
        with_reducible refine wpQuiet_step ?_
        intro K hK
        rw [if_pos (by kernel_rfl)]
        refine eqlS_at (.tmp 15) (.tmp 16) _ rfl yr.toArray xr.toArray rfl rfl true HEQ.out (hK _ ?_)
        clear hK K
        simp only [Act.put, List.setIfInBounds_toArray, List.set_cons_zero, List.set_cons_succ]
        refine wpQuiet_nil fun w3 hk3 => ?_
        have HK3 : Hid (Kept [] w w3) := HKw.out.then hk3
        clear hk3 H1 H2 HEQ
        go_wp2
        go_ret
        exact ⟨by rw [HF.out]; rfl, HK3.out⟩
      · have HN : Hid (∀ j z, j < k + 1 → L[j]? = some z → z ≠ x) := fun j z hj hz => by
          by_cases e : j = k
          · subst e
            rw [hy] at hz
            exact Option.some.inj hz ▸ hxy
          · exact HI.out.1 j z (by omega) hz
        have HEQ : Hid (∀ W, (Op.equalIn 10000 32 (.agg y.row.toArray) (.agg xr.toArray)).run Try.prog W = .ok false W) := by
          have h := HEQ0.out y
          rw [decide_eq_false hxy] at h
          exact h
        clear hxy hy
        generalize y.row = yr at *
        go_wp2_with fail
        refine region_quiet (Kept [] wr) (by kernel_rfl) (by kernel_rfl) (Kept.refl [] wr).drew ?_
        with_reducible refine wpQuiet_step ?_
        intro K hK
        rw [if_pos (by kernel_rfl)]
        refine move_at (.tmp 0) rfl (.slice (some ⟨b1, o1, none⟩) L.length c1) rfl (hK _ ?_)
        clear hK K
        simp only [Act.put, List.setIfInBounds_toArray, List.set_cons_zero, List.set_cons_succ]
        with_reducible refine wpQuiet_step ?_
        intro K hK
        rw [if_pos (by kernel_rfl)]
        refine move_at (.tmp 5) rfl (.int .i64 (k : Int)) rfl (hK _ ?_)
        clear hK K
        simp only [Act.put, List.setIfInBounds_toArray, List.set_cons_zero, List.set_cons_succ]
        with_reducible refine wpQuiet_step ?_
        intro K hK
        rw [if_pos (by kernel_rfl)]
        refine val_at (.pointer (some ⟨b1, o1 + k * 34, none⟩)) (fun W => by go_simp) (hK _ ?_)
        clear hK K
        simp only [Act.put, List.setIfInBounds_toArray, List.set_cons_zero, List.set_cons_succ]
        with_reducible refine wpQuiet_step ?_
        intro K hK
        rw [if_pos (by kernel_rfl)]
        refine row_at 32 (.tmp 14) rfl b1 (o1 + k * 34) rfl yr _ H1.out has rfl hs1 (hK _ ?_)
        clear hK K
        simp only [Act.put, List.setIfInBounds_toArray, List.set_cons_zero, List.set_cons_succ]
        with_reducible refine wpQuiet_step ?_
        intro K hK
        rw [if_pos (by kernel_rfl)]
        refine row_at 32 (.tmp 3) rfl w.heap.size 0 rfl xr _ H2.out has rfl hs2 (hK _ ?_)
        clear hK K
        simp only [Act.put, List.setIfInBounds_toArray, List.set_cons_zero, List.set_cons_succ]
        with_reducible refine wpQuiet_step ?_
        intro K hK
        rw [if_pos (by kernel_rfl)]
        refine eqlS_at (.tmp 15) (.tmp 16) _ rfl yr.toArray xr.toArray rfl rfl false HEQ.out (hK _ ?_)
        clear hK K
        simp only [Act.put, List.setIfInBounds_toArray, List.set_cons_zero, List.set_cons_succ]
        refine wpQuiet_nil fun w3 hk3 => ?_
        have HK3 : Hid (Kept [] W1 w3) := HI.out.2.then hk3
        clear hk3 H1 H2 HEQ
        go_wp2
        go_roundw
        case rel => exact ⟨k + 1, by omega, by go_num, HN.out, HK3.out⟩
        case measure => simp [intOf]; omega
    · have t0 : decide ((k : Int) < (L.length : Int)) = false := decide_eq_false (by omega)
      have t0' : ¬ ((k : Int) < (L.length : Int)) := by omega
      have HF : Hid (r = false) := by
        have h : r = false := by
          rw [HR.out]
          refine decide_eq_false fun hm => ?_
          obtain ⟨j, hj, e⟩ := List.getElem_of_mem hm
          exact HI.out.1 j x (by omega) (by rw [List.getElem?_eq_getElem hj, e]) rfl
        exact h
      go_wp2
      go_ret
      exact ⟨by rw [HF.out]; rfl, HKw.out⟩
def markS : StampE := ⟨[109, 97, 114, 107], List.replicate 32 0, 77, by decide, ⟨by simp, fun x h => by rw [List.eq_of_mem_replicate h]; decide⟩, by decide, by decide⟩
theorem Try.builtMarkS : Try.prog.built 32 [(0, .string ⟨#[109, 97, 114, 107]⟩), (2, .int .u64 77)] = some markS.row.toArray := by kernel_rfl
theorem markS_row : markS.row = ([.string ⟨#[109, 97, 114, 107]⟩, .int .u8 0, .int .u8 0, .int .u8 0, .int .u8 0, .int .u8 0, .int .u8 0, .int .u8 0, .int .u8 0, .int .u8 0, .int .u8 0, .int .u8 0, .int .u8 0, .int .u8 0, .int .u8 0, .int .u8 0, .int .u8 0, .int .u8 0, .int .u8 0, .int .u8 0, .int .u8 0, .int .u8 0, .int .u8 0, .int .u8 0, .int .u8 0, .int .u8 0, .int .u8 0, .int .u8 0, .int .u8 0, .int .u8 0, .int .u8 0, .int .u8 0, .int .u8 0, .int .u64 77] : List Value) := by kernel_rfl
set_option maxRecDepth 100000 in
set_option maxHeartbeats 2000000 in
/-- In new memory, with a mark behind the end. -/
theorem stamps_any (v : Value) (L : List StampE) (w : World) (hv : StampsAt w v L) (hl : L.length ≤ 100000) :
    Calls Try.prog 4 #[v] w fun e w' => ∃ g cap, e = .returned (.slice (some ⟨g, 0, none⟩) L.length cap) ∧ L.length + 1 ≤ cap ∧ StampOwn w' w.heap.size (.slice (some ⟨g, 0, none⟩) L.length cap) L ∧ w'.cell? ⟨g, L.length * 34 + 33, none⟩ = some (.int .u64 77) ∧ Kept [] w w' := by
  have HA : Hid (StampsAt w v L) := hv
  obtain ⟨a1, c1, rfl, _, hl1⟩ := hv.is
  have has := Try.underlying32
  have HNL : Hid (w.ownsRow w.heap.size 32 34 (.slice none 0 0) 0 []) := StampOwn.nil w w.heap.size
  have hmk : markS.row.length = 34 := markS.row_len
  have HM1 : Hid (∀ u, u ∈ markS.row → u.oneCell' = true) := markS.row_one
  have HMS : Hid (markS.row.toArray[33]? = some (.int .u64 77)) := markS.get_seq
  have hbm := Try.builtMarkS
  clear hv
  have HMR : Hid (([.string ⟨#[109, 97, 114, 107]⟩, .int .u8 0, .int .u8 0, .int .u8 0, .int .u8 0, .int .u8 0, .int .u8 0, .int .u8 0, .int .u8 0, .int .u8 0, .int .u8 0, .int .u8 0, .int .u8 0, .int .u8 0, .int .u8 0, .int .u8 0, .int .u8 0, .int .u8 0, .int .u8 0, .int .u8 0, .int .u8 0, .int .u8 0, .int .u8 0, .int .u8 0, .int .u8 0, .int .u8 0, .int .u8 0, .int .u8 0, .int .u8 0, .int .u8 0, .int .u8 0, .int .u8 0, .int .u8 0, .int .u64 77] : List Value) = markS.row) := markS_row.symm
  rw [markS_row] at hmk HM1 hbm
  go_enter Try.func4, Try.ntmps4
  go_wp2_with (first
    | (refine wpList_append_rows (by rfl) (.tmp 4) (.tmp 5) 22 32 (.agg zeroS.row.toArray) 34 56 Try.underlying22 Try.zeroStampI (by show zeroS.row.toArray.size = 34; rw [List.size_toArray, zeroS.row_len]) (by decide) (by rfl) (by rfl) HNL.out (by rfl) HA.out srows_len srows_one (by rw [List.length_map]; omega) (by decide) (Nat.le_refl _) ?_
       intro v2 w2 h2 k2
       have H2 : Hid (w2.ownsRow w.heap.size 32 34 v2 L.length (L.map StampE.row).flatten ∧ Kept [] w w2) := (by rw [List.length_map, Nat.zero_add, List.nil_append] at h2; exact ⟨h2, k2⟩)
       clear h2 k2)
    | (refine wpList_build_some (by rfl) 32 _ (by rfl) ([.string ⟨#[109, 97, 114, 107]⟩, .int .u8 0, .int .u8 0, .int .u8 0, .int .u8 0, .int .u8 0, .int .u8 0, .int .u8 0, .int .u8 0, .int .u8 0, .int .u8 0, .int .u8 0, .int .u8 0, .int .u8 0, .int .u8 0, .int .u8 0, .int .u8 0, .int .u8 0, .int .u8 0, .int .u8 0, .int .u8 0, .int .u8 0, .int .u8 0, .int .u8 0, .int .u8 0, .int .u8 0, .int .u8 0, .int .u8 0, .int .u8 0, .int .u8 0, .int .u8 0, .int .u8 0, .int .u8 0, .int .u64 77] : List Value).toArray (by simpa using hbm) ?_)
    | (refine wpList_build_k (by rfl) Try.underlying22 Try.zeroStampI (by decide) (by decide) (.tmp 8) (by rfl) ([.string ⟨#[109, 97, 114, 107]⟩, .int .u8 0, .int .u8 0, .int .u8 0, .int .u8 0, .int .u8 0, .int .u8 0, .int .u8 0, .int .u8 0, .int .u8 0, .int .u8 0, .int .u8 0, .int .u8 0, .int .u8 0, .int .u8 0, .int .u8 0, .int .u8 0, .int .u8 0, .int .u8 0, .int .u8 0, .int .u8 0, .int .u8 0, .int .u8 0, .int .u8 0, .int .u8 0, .int .u8 0, .int .u8 0, .int .u8 0, .int .u8 0, .int .u8 0, .int .u8 0, .int .u8 0, .int .u8 0, .int .u64 77] : List Value) (by rfl) hmk ?_)
    | (refine wpList_append_rows (by rfl) (.tmp 7) (.tmp 9) 22 32 (.agg zeroS.row.toArray) 34 56 Try.underlying22 Try.zeroStampI (by show zeroS.row.toArray.size = 34; rw [List.size_toArray, zeroS.row_len]) (by decide) (by rfl) (by rfl) (ownsK_on H2.out.1 ((Kept.refl [] w2).alloc _) (by simp)) (by rfl) (row_at_new w2 ([.string ⟨#[109, 97, 114, 107]⟩, .int .u8 0, .int .u8 0, .int .u8 0, .int .u8 0, .int .u8 0, .int .u8 0, .int .u8 0, .int .u8 0, .int .u8 0, .int .u8 0, .int .u8 0, .int .u8 0, .int .u8 0, .int .u8 0, .int .u8 0, .int .u8 0, .int .u8 0, .int .u8 0, .int .u8 0, .int .u8 0, .int .u8 0, .int .u8 0, .int .u8 0, .int .u8 0, .int .u8 0, .int .u8 0, .int .u8 0, .int .u8 0, .int .u8 0, .int .u8 0, .int .u8 0, .int .u8 0, .int .u64 77] : List Value) 32 34) (by rintro r hr; rw [List.mem_singleton.1 hr]; exact hmk) (by rintro r hr; rw [List.mem_singleton.1 hr]; exact HM1.out) (by show L.length + 1 ≤ 1000000; omega) (by decide) (Nat.le_trans H2.out.2.size (by rw [World.size_alloc]; omega)) ?_
       intro v3 w3 h3 k3
       have H3 : Hid (StampOwn w3 w.heap.size v3 (L ++ [markS]) ∧ Kept [] w w3) := (by
         refine ⟨?_, (H2.out.2.alloc _).trans k3 (fun y hy => Or.inr (World.ownsRow.lt H2.out.1 y (by simpa using hy)).1)⟩
         unfold StampOwn
         rw [List.length_append, List.map_append, List.flatten_append]
         have h := h3
         rw [HMR.out] at h
         exact h)
       clear h3 k3
       obtain ⟨g, cap, hv3⟩ : ∃ g cap, v3 = .slice (some ⟨g, 0, none⟩) (L.length + 1) cap := (by
         rcases H3.out.1.form with ⟨h1, _⟩ | ⟨g, cap, _, h2, _⟩
         · simp at h1
         · rw [List.length_append] at h2; exact ⟨g, cap, h2⟩)
       subst hv3
       have hcp : L.length + 1 ≤ cap := (by
         rcases H3.out.1.form with ⟨h1, _⟩ | ⟨_, _, _, h2, _, _, h3, _⟩
         · simp at h1
         · injection h2 with _ _ e3; rw [List.length_append] at h3; rw [e3]; exact h3))
    | (refine wpList_upto (by rfl) 22 34 (by kernel_rfl) (Try.sizeOf32 w3) (.tmp 11) (.tmp 13) (by rfl) g 0 (L.length + 1) cap (by rfl) L.length (L.length : Int) rfl (by rfl) (by omega) ?_))
  go_ret
  refine ⟨g, cap, rfl, hcp, ?_, ?_, H3.out.2⟩
  · obtain ⟨h1, h2, h3⟩ := (show StampOwn w3 w.heap.size (.slice (some ⟨g, 0, none⟩) (L ++ [markS]).length cap) (L ++ [markS]) by rw [List.length_append]; exact H3.out.1).mem
    have h := (h1.take L.length).own h2 h3
    rw [List.take_left' rfl] at h
    exact h
  · have h := (show StampOwn w3 w.heap.size (.slice (some ⟨g, 0, none⟩) (L ++ [markS]).length cap) (L ++ [markS]) by rw [List.length_append]; exact H3.out.1).range L.length markS (by simp)
    have h2 := h 33 (.int .u64 77) (by have := HMS.out; rwa [List.getElem?_toArray] at this)
    exact h2
end Go.Proofs.Ytmjbaficdoehfaa
