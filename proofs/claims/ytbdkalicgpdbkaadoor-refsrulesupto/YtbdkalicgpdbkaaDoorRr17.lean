/-
  WALK: refs.ParseRules.
-/
import Derived.Test.YtbdkalicgpdbkaaDoorRr16
namespace Go.Proofs.YtbdkalicgpdbkaaDoor
open Go.RowKit Go.Shelf
attribute [local go_sem] Oper.semAt_some

theorem Tryd.loadRules {w : World} {b o : Nat} {v : Value} (h : w.cell? ⟨b, o, none⟩ = some v) : (loadVar 22 ⟨b, o, none⟩).run Tryd.prog w = .ok v w := by
  go_simp
theorem Tryd.loadErrno {w : World} {b o : Nat} {v : Value} (h : w.cell? ⟨b, o, none⟩ = some v) : (loadVar 33 ⟨b, o, none⟩).run Tryd.prog w = .ok v w := by
  go_simp
theorem cells_of_cell {W : World} {g o : Nat} {v : Value} (h : W.cell? ⟨g, o, none⟩ = some v) : ∃ c t fr, W.heap[g]? = some (Obj.cells c t fr) := by
  unfold World.cell? at h
  cases hg : W.heap[g]? with
  | none => simp [hg] at h
  | some ob => cases ob <;> first | exact ⟨_, _, _, rfl⟩ | simp [hg] at h
theorem Tabs.blocks {W W' : World} (h : Tabs W) (hk : ∀ (k : Nat) (c : Array Value) (t : TypeId) (fr : Nat × Nat), W.heap[k]? = some (Obj.cells c t fr) → W'.heap[k]? = W.heap[k]?) : Tabs W' := by
  have key : ∀ g o v, W.cell? ⟨g, o, none⟩ = some v → W'.cell? ⟨g, o, none⟩ = some v := fun g o v hc => by
    obtain ⟨c, t, fr, hg⟩ := cells_of_cell hc
    exact (World.cell?_of_block (w := W) (a := ⟨g, o, none⟩) (hk g c t fr hg)).trans hc
  exact ⟨fun c hc => key _ _ _ (h.1 c hc), fun i hi => ⟨key _ _ _ (h.2 i hi).1, key _ _ _ (h.2 i hi).2⟩⟩
theorem KpW.putObj {s f b : Nat} (hs : s < b) (hf : f < b) (W : World) (l : Nat) (o o' : Obj) (hl : b ≤ l) (ho : W.heap[l]? = some o) (hc : o.isCells = false) : KpW s f W (W.putObj l o') :=
  ⟨fun t => Tabs.blocks t fun k c t' fr hk => World.putObj_heap_other (fun e => by
      rw [e, ho] at hk
      injection hk with hk
      subst hk
      cases hc), World.putObj_heap_other (by omega), World.putObj_heap_other (by omega)⟩
set_option maxRecDepth 100000 in
set_option maxHeartbeats 8000000 in
theorem ParseRules_any (xs : List Int) (ho : Octs xs) (hl : xs.length ≤ 1100000) (w : World) (hT : Tabs w) (hM : MaxW w) :
    Calls Tryd.prog 14 #[.string (strOfNums xs)] w fun e w' => RulesOut (parseL xs) w.heap.size e w' ∧ Kept [] w w' := by
  obtain ⟨S, hS⟩ : ∃ S, S = strOfNums xs := ⟨_, rfl⟩
  obtain ⟨V1, hV1⟩ : ∃ V, V = w.alloc (.cells #[.slice none 0 0] 22) := ⟨_, rfl⟩
  obtain ⟨V2, hV2⟩ : ∃ V, V = V1.alloc (.cells #[.int .i64 0] 33) := ⟨_, rfl⟩
  obtain ⟨V3, hV3⟩ : ∃ V, V = V2.alloc (.cells #[.slice none 0 0] 22) := ⟨_, rfl⟩
  obtain ⟨V4, hV4⟩ : ∃ V, V = V3.alloc (.cells #[.string S] 9) := ⟨_, rfl⟩
  obtain ⟨V5, hV5⟩ : ∃ V, V = V4.alloc (.cells #[.func (.func 31) #[] #[]] 60) := ⟨_, rfl⟩
  have s1 : V1.heap.size = w.heap.size + 1 := by rw [hV1]; exact World.size_alloc _ _
  have s2 : V2.heap.size = w.heap.size + 2 := by rw [hV2, World.size_alloc, s1]
  have s3 : V3.heap.size = w.heap.size + 3 := by rw [hV3, World.size_alloc, s2]
  have s4 : V4.heap.size = w.heap.size + 4 := by rw [hV4, World.size_alloc, s3]
  have s5 : V5.heap.size = w.heap.size + 5 := by rw [hV5, World.size_alloc, s4]
  have k1 : Kept [] w V1 := by rw [hV1]; exact (Kept.refl _ _).alloc _
  have k2 : Kept [] V1 V2 := by rw [hV2]; exact (Kept.refl _ _).alloc _
  have k3 : Kept [] V2 V3 := by rw [hV3]; exact (Kept.refl _ _).alloc _
  have k4 : Kept [] V3 V4 := by rw [hV4]; exact (Kept.refl _ _).alloc _
  have k5 : Kept [] V4 V5 := by rw [hV5]; exact (Kept.refl _ _).alloc _
  have k05 : Kept [] w V5 := (((k1.then k2).then k3).then k4).then k5
  have b0 : V5.heap[w.heap.size]? = some (.cells #[.slice none 0 0] 22 (0, 0)) := (((k2.then k3).then k4).then k5).heap (by rw [hV1]; exact heap_alloc_new w _) (by simp)
  have b1 : V5.heap[w.heap.size + 1]? = some (.cells #[.int .i64 0] 33 (0, 0)) := ((k3.then k4).then k5).heap (by rw [hV2, ← s1]; exact heap_alloc_new V1 _) (by simp)
  have b2 : V5.heap[w.heap.size + 1 + 1]? = some (.cells #[.slice none 0 0] 22 (0, 0)) := (k4.then k5).heap (by rw [hV3, ← s2]; exact heap_alloc_new V2 _) (by simp)
  have b3 : V5.heap[V3.heap.size]? = some (.cells #[.string S] 9 (0, 0)) := k5.heap (by rw [hV4]; exact heap_alloc_new V3 _) (by simp)
  have b4 : V5.heap[V3.heap.size + 1]? = some (.cells #[.func (.func 31) #[] #[]] 60 (0, 0)) := by
    have h := heap_alloc_new V4 (.cells #[.func (.func 31) #[] #[]] 60)
    rw [← hV5, s4] at h
    rw [s3]
    exact h
  have HI0 : Hid (PrI w V5.heap.size [] (.slice none 0 0) [] V5) := ⟨⟨b2, World.ownsRow_nil _ _ _ _⟩, b0, b1, k05, Nat.le_refl _, rfl, by simp⟩
  have hseq := words_G xs ho hl (w := V5) V3.heap.size (V3.heap.size + 1) (by rw [cell_of_row _ _ _ _ _ _ b3, hS]; rfl) (by rw [cell_of_row _ _ _ _ _ _ b4]; rfl) (hT.kept k05) 4
  have HTM : Hid (∀ W, Kept [] w W → Tabs W ∧ MaxW W) := fun W k => ⟨hT.kept k, hM.kept k⟩
  have HS : Hid (w.heap.size ≤ V5.heap.size ∧ V5.heap.size = w.heap.size + 5 ∧ V3.heap.size = w.heap.size + 3) := ⟨by omega, s5, s3⟩
  have HV1 : Hid (V1 = w.alloc (.cells #[.slice none 0 0] 22)) := hV1
  have HV2 : Hid (V2 = V1.alloc (.cells #[.int .i64 0] 33)) := hV2
  have HV3 : Hid (V3 = V2.alloc (.cells #[.slice none 0 0] 22)) := hV3
  have hfs := Fields_any S V3
  rw [← hV4, ← hV5] at hfs
  rw [← hS]
  have HSX : Hid (S = strOfNums xs) := hS
  clear hT hM hS hV1 hV2 hV3 hV4 hV5 s1 s2 s3 s4 s5 k1 k2 k3 k4 k5 k05 b0 b1 b2 b3 b4
  refine (callsIn_wide (n := 5)).1 ?_
  refine callsIn_of_wp_marks Tryd.func14 rfl trivial ?_ rfl
  simp only [Tryd.ntmps14, List.size_toArray, List.length_cons, List.length_nil, Nat.reduceAdd, Nat.reduceSub, Array.replicate_succ, Array.replicate_zero, List.push_toArray, List.append_toArray, List.nil_append, List.cons_append]
  gi_wp2_with fail
  refine ⟨trivial, ?_⟩
  rw [← HV1.out, ← HV2.out, ← HV3.out]
  refine (callsIn_wide.2 hfs).mono ?_
  rintro e wq ⟨rfl, hwq⟩
  subst wq
  clear hfs
  gi_wp2_with fail
  refine wpIn_cap fun T0 hT0 => ?_
  refine wpIn_rangeG_out rfl (by omega) (gf := 47) (lb := #[.pointer (some ⟨V3.heap.size, 0, none⟩), .pointer (some ⟨V3.heap.size + 1, 0, none⟩)]) (by rw [hT0]; rfl) trivial (enters_of Tryd.func47 (by kernel_rfl) rfl) hseq (fun x A C h => h.1.others (by simp) _) KpW.trans ?hKb (fun _ => rfl) (Below.refl _ _)
    (fun pre W => ∃ v R, PrI w V5.heap.size pre v R W) (fun c pre W => c = .ret ∧ BadW pre ∧ PrX w W) ?hI ?hIx ⟨_, _, HI0.out⟩
    (fun pre x a2 W => (∃ v R, PrI w V5.heap.size pre v R W) ∧ (x ≠ [] ∧ Octs x ∧ x.length ≤ 1100000) ∧ a2 = { tmps := (T0.setIfInBounds 10 (.string (strOfNums x))).setIfInBounds 5 (.string (strOfNums x)), defers := [] })
    ?hAx ?assign ?body ?done ?stop
  case hKb => exact fun W l o o2 hl ho hc _ => KpW.putObj (b := V5.heap.size) (by have := HS.out; omega) (by have := HS.out; omega) W l o o2 hl ho hc
  case hI =>
    rintro pre W W2 row ⟨v, R, h⟩ hg hr
    exact ⟨v, R, h.turns ⟨hg, hr⟩ HS.out.1⟩
  case hIx =>
    rintro c pre W W2 row ⟨h1, h2, h3⟩ hg hr
    exact ⟨h1, h2, h3.turns ⟨hg, hr⟩ HS.out.1⟩
  case hAx =>
    rintro pre x a2 _ W W2 row ⟨⟨v, R, h⟩, h2, h3⟩ hg hr
    exact ⟨⟨v, R, h.turns ⟨hg, hr⟩ HS.out.1⟩, h2, h3⟩
  case assign =>
    rintro pre x A W K ⟨v, R, h⟩ ⟨kx, hx⟩ _ hK
    have HF : Hid (∃ v R, PrI w V5.heap.size pre v R W) := ⟨v, R, h.on kx⟩
    clear h
    subst hT0
    simp only [encsW]
    gi_wp2
    exact hK _ _ ((Kept.refl [] W).others (by simp) _) ⟨fun t => t, rfl, rfl⟩ ⟨HF.out, hx, rfl⟩
  case body =>
    rintro pre x a2 W hloop ⟨⟨v, R, hI⟩, ⟨hx1, hx2, hx3⟩, rfl⟩ hpl
    have hpa := parse_any x hx1 hx2 hx3 W (HTM.out W hI.kept).1 (HTM.out W hI.kept).2
    have HI : Hid (PrI w V5.heap.size pre v R W) := hI
    obtain ⟨va, vc, hv⟩ := hI.box.own.form
    subst hv
    subst hT0
    cases hrx : readL x with
    | none =>
      have HRN : Hid (Calls Tryd.prog 32 #[.string (strOfNums x)] W fun e w' => ∃ X : List Value, X.length = 4 ∧ (∀ v, v ∈ X → v.oneCell' = true) ∧ e = .returned (.tuple #[.agg X.toArray, .bool false]) ∧ Kept [] W w') := hpa.mono fun e w' h => by
        obtain ⟨r, he, _, hk⟩ := h
        rw [hrx] at he
        exact ⟨r.row, rfl, row_one r, he, hk⟩
      clear hpa hI hx1 hx2 hx3
      simp only [List.setIfInBounds_toArray, List.set_cons_zero, List.set_cons_succ]
      gi_wp2_with fail
      refine ⟨trivial, ?_⟩
      refine (CallsIn.inRound _ (callsIn_wide.2 HRN.out)).mono ?_
      rintro e w2 ⟨X, hX4, hX1, rfl, k2⟩
      obtain ⟨W3, hW3⟩ : ∃ W3, W3 = w2.alloc (.cells X.toArray 37) := ⟨_, rfl⟩
      have HW3 : Hid (W3 = w2.alloc (.cells X.toArray 37)) := hW3
      have k3 : Kept [] W W3 := k2.then (by rw [hW3]; exact (Kept.refl _ _).alloc _)
      have HP3 : Hid (PrI w V5.heap.size pre (.slice va R.length vc) R W3) := HI.out.on k3
      have HK3 : Hid (Kept [] W W3) := k3
      have c0 : W3.cell? ⟨w.heap.size, 0, none⟩ = some (.slice none 0 0) := by rw [cell_of_row _ _ _ _ _ _ HP3.out.out]; rfl
      have f0 : W3.frozen? ⟨w.heap.size, 0, none⟩ = false := frozen_of_row _ _ _ _ _ HP3.out.out
      have k4 : Kept [w.heap.size] W3 (W3.setCell ⟨w.heap.size, 0, none⟩ (.slice none 0 0)) := kept_setBox _ _ _
      have b4 : (W3.setCell ⟨w.heap.size, 0, none⟩ (.slice none 0 0)).heap[w.heap.size + 1]? = some (.cells #[.int .i64 0] 33 (0, 0)) := k4.heap HP3.out.num (by simp)
      have c1 : (W3.setCell ⟨w.heap.size, 0, none⟩ (.slice none 0 0)).cell? ⟨w.heap.size + 1, 0, none⟩ = some (.int .i64 0) := by rw [cell_of_row _ _ _ _ _ _ b4]; rfl
      have f1 : (W3.setCell ⟨w.heap.size, 0, none⟩ (.slice none 0 0)).frozen? ⟨w.heap.size + 1, 0, none⟩ = false := frozen_of_row _ _ _ _ _ b4
      have HX1 : Hid (∀ v, v ∈ X → v.oneCell' = true) := hX1
      have HB4 : Hid ((W3.setCell ⟨w.heap.size, 0, none⟩ (.slice none 0 0)).heap[w.heap.size + 1]? = some (.cells #[.int .i64 0] 33 (0, 0))) := b4
      clear k2 k3 k4 b4 hX1 hW3 HRN
      gi_wp2_with (first
        | (refine listIn_store_row (by rfl) 37 (.tmp 6) (.tmp 14) (by rfl) w2.heap.size X.toArray (by rfl) (by rfl) 37 #[.string ⟨#[]⟩, .string ⟨#[]⟩, .bool false, .bool false] (heap_alloc_new w2 _) (by rw [show X.toArray.size = 4 by rw [List.size_toArray, hX4]]; kernel_rfl) (by simp [hX4]) (all_oneCell_toArray HX1.out) ?_
           rw [World.setRow_alloc_new, ← HW3.out]))
      obtain ⟨q1, q2⟩ := PrI.spoil HI.out HK3.out V5.heap.size
      exact ⟨q1, rfl, .inl ⟨x, by simp, hrx⟩, q2⟩
    | some r =>
      have HRN : Hid (Calls Tryd.prog 32 #[.string (strOfNums x)] W fun e w' => e = .returned (.tuple #[.agg r.row.toArray, .bool true]) ∧ Kept [] W w') := hpa.mono fun e w' h => by
        obtain ⟨r', he, hq, hk⟩ := h
        rw [hrx] at he
        rw [hq r hrx] at he
        exact ⟨he, hk⟩
      obtain ⟨X, hX⟩ : ∃ X, X = r.row := ⟨_, rfl⟩
      have HX : Hid (X = r.row) := hX
      have hX4 : X.length = 4 := by rw [hX]; rfl
      have hX1 : ∀ v, v ∈ X → v.oneCell' = true := by rw [hX]; exact row_one r
      rw [← hX] at HRN
      have hRn : R.length ≤ 64 := hI.few
      have HRX : Hid (readL x = some r) := hrx
      clear hpa hI hx1 hx2 hx3 hX hrx
      simp only [List.setIfInBounds_toArray, List.set_cons_zero, List.set_cons_succ]
      gi_wp2_with fail
      refine ⟨trivial, ?_⟩
      refine (CallsIn.inRound _ (callsIn_wide.2 HRN.out)).mono ?_
      rintro e w2 ⟨rfl, k2⟩
      obtain ⟨W3, hW3⟩ : ∃ W3, W3 = w2.alloc (.cells X.toArray 37) := ⟨_, rfl⟩
      have HW3 : Hid (W3 = w2.alloc (.cells X.toArray 37)) := hW3
      have k3 : Kept [] W W3 := k2.then (by rw [hW3]; exact (Kept.refl _ _).alloc _)
      have HP3 : Hid (PrI w V5.heap.size pre (.slice va R.length vc) R W3) := HI.out.on k3
      have HK3 : Hid (Kept [] W W3) := k3
      have c2 : W3.cell? ⟨w.heap.size + 1 + 1, 0, none⟩ = some (.slice va R.length vc) := HP3.out.box.cell
      have HX1 : Hid (∀ v, v ∈ X → v.oneCell' = true) := hX1
      clear k2 k3 hX1 HRN
      by_cases h64 : R.length = 64
      · have c0 : W3.cell? ⟨w.heap.size, 0, none⟩ = some (.slice none 0 0) := by rw [cell_of_row _ _ _ _ _ _ HP3.out.out]; rfl
        have f0 : W3.frozen? ⟨w.heap.size, 0, none⟩ = false := frozen_of_row _ _ _ _ _ HP3.out.out
        have k4 : Kept [w.heap.size] W3 (W3.setCell ⟨w.heap.size, 0, none⟩ (.slice none 0 0)) := kept_setBox _ _ _
        have b4 : (W3.setCell ⟨w.heap.size, 0, none⟩ (.slice none 0 0)).heap[w.heap.size + 1]? = some (.cells #[.int .i64 0] 33 (0, 0)) := k4.heap HP3.out.num (by simp)
        have c1 : (W3.setCell ⟨w.heap.size, 0, none⟩ (.slice none 0 0)).cell? ⟨w.heap.size + 1, 0, none⟩ = some (.int .i64 0) := by rw [cell_of_row _ _ _ _ _ _ b4]; rfl
        have f1 : (W3.setCell ⟨w.heap.size, 0, none⟩ (.slice none 0 0)).frozen? ⟨w.heap.size + 1, 0, none⟩ = false := frozen_of_row _ _ _ _ _ b4
        have HBW : Hid (BadW (pre ++ [x])) := .inr (by have := mapM_len HI.out.read; simp; omega)
        have HRR : Hid (R.length = 64) := h64
        have HRL : Hid (R.length = R.length) := rfl
        rw [h64] at c2
        clear k4 b4 hW3 hRn h64
        gi_wp2_with (first
          | (refine listIn_store_row (by rfl) 37 (.tmp 6) (.tmp 14) (by rfl) w2.heap.size X.toArray (by rfl) (by rfl) 37 #[.string ⟨#[]⟩, .string ⟨#[]⟩, .bool false, .bool false] (heap_alloc_new w2 _) (by rw [show X.toArray.size = 4 by rw [List.size_toArray, hX4]]; kernel_rfl) (by simp [hX4]) (all_oneCell_toArray HX1.out) ?_
             rw [World.setRow_alloc_new, ← HW3.out]))
        obtain ⟨q1, q2⟩ := PrI.spoil HI.out HK3.out V5.heap.size
        exact ⟨q1, rfl, HBW.out, q2⟩
      · have t64 : decide ((R.length : Int) = 64) = false := decide_eq_false (by omega)
        have HLT : Hid (R.length < 64) := show R.length < 64 by omega
        have h64' : ¬ (R.length : Int) = 64 := by omega
        have HO3 : Hid (∀ o, (W3.alloc o).ownsRow V5.heap.size 37 4 (.slice va R.length vc) R.length (R.map RuleL.row).flatten) := fun o => ownsK_on' HP3.out.box.own ((Kept.refl [] W3).alloc _)
        have HB3 : Hid (∀ o, V5.heap.size ≤ (W3.alloc o).heap.size) := fun o => Nat.le_trans HP3.out.size ((Kept.refl [] W3).alloc _).size
        have hrng : W3.rangeAt w2.heap.size 0 X := by rw [hW3]; exact row_range (heap_alloc_new w2 _)
        have hui := Tryd.underlying37
        have hsi : (Tryd.prog.info? 37).map (·.size) = some X.length := by rw [hX4]; kernel_rfl
        have hbs := fun W => run_build_k (t := 22) Tryd.underlying22 Tryd.info_rule (by decide) (by decide) X hX4 W
        clear hW3
        gi_wp2_with (first
          | (refine listIn_store_row (by rfl) 37 (.tmp 6) (.tmp 14) (by rfl) w2.heap.size X.toArray (by rfl) (by rfl) 37 #[.string ⟨#[]⟩, .string ⟨#[]⟩, .bool false, .bool false] (heap_alloc_new w2 _) (by rw [show X.toArray.size = 4 by rw [List.size_toArray, hX4]]; kernel_rfl) (by simp [hX4]) (all_oneCell_toArray HX1.out) ?_
             rw [World.setRow_alloc_new, ← HW3.out])
          | (refine listIn_load_mid (by rfl) 37 (.tmp 6) (by rfl) w2.heap.size 0 (by rfl) X _ hrng hui rfl hsi ?_)
          | (refine listIn_slice_k (by rfl) 22 37 (.tmp 24) (by rfl) X (by rfl) hbs ?_)
          | (gi_at_builtin; refine listIn_append_rows (by rfl) (.tmp 23) (.tmp 25) 22 37 _ 4 40 Tryd.underlying22 Tryd.info_rule rfl (by decide) (by rfl) (B := V5.heap.size) (v := .slice va R.length vc) (n := R.length) (xs := (R.map RuleL.row).flatten) (by rfl) (HO3.out _) (rows := [X]) (by rfl) (row_at_new _ _ _ _) (by rintro y hy; rw [List.mem_singleton.1 hy]; exact hX4) (by rintro y hy; rw [List.mem_singleton.1 hy]; exact HX1.out) (by simp; omega) (by decide) (HB3.out _) ?_
             intro v6 w6 own6 k6
             rw [HX.out] at own6 k6
             obtain ⟨a6, c6, hv6⟩ := (RuleOwn.push own6).form
             rw [List.length_append, List.length_singleton] at hv6
             subst hv6
             obtain ⟨cc, cf, q1, q2, q3⟩ := HI.out.next (by have := HS.out; omega) (HK3.out.then ((Kept.refl [] W3).alloc _)) HRX.out HLT.out (RuleOwn.push own6) k6
             have HQ : Hid (_ ∧ _ ∧ _) := And.intro q1 (And.intro q2 q3)
             clear own6 k6 q1 q2 q3))
        have := HS.out
        exact ⟨HQ.out.2.1 _, ⟨fun _ => (HTM.out _ HQ.out.1.kept).1, HQ.out.2.2 _ (by omega) (by omega), HQ.out.2.2 _ (by omega) (by omega)⟩, _, _, HQ.out.1⟩
  case done =>
    rintro ys W hys ⟨v, R, hI⟩ hD
    obtain ⟨va, vc, hv⟩ := hI.box.own.form
    subst hv
    have HI : Hid (PrI w V5.heap.size ys (.slice va R.length vc) R W) := hI
    have HPX : Hid (parseL xs = some R) := parse_all (by rw [← hys]; exact hI.read) hI.few
    have c2 : W.cell? ⟨w.heap.size + 1 + 1, 0, none⟩ = some (.slice va R.length vc) := hI.box.cell
    have c0 : W.cell? ⟨w.heap.size, 0, none⟩ = some (.slice none 0 0) := by rw [cell_of_row _ _ _ _ _ _ hI.out]; rfl
    have f0 : W.frozen? ⟨w.heap.size, 0, none⟩ = false := frozen_of_row _ _ _ _ _ hI.out
    have kA : Kept [w.heap.size] W (W.setCell ⟨w.heap.size, 0, none⟩ (.slice va R.length vc)) := kept_setBox _ _ _
    have bA : (W.setCell ⟨w.heap.size, 0, none⟩ (.slice va R.length vc)).heap[w.heap.size + 1]? = some (.cells #[.int .i64 0] 33 (0, 0)) := kA.heap hI.num (by simp)
    have c1 : (W.setCell ⟨w.heap.size, 0, none⟩ (.slice va R.length vc)).cell? ⟨w.heap.size + 1, 0, none⟩ = some (.int .i64 0) := by rw [cell_of_row _ _ _ _ _ _ bA]; rfl
    have f1 : (W.setCell ⟨w.heap.size, 0, none⟩ (.slice va R.length vc)).frozen? ⟨w.heap.size + 1, 0, none⟩ = false := frozen_of_row _ _ _ _ _ bA
    have HD : Hid (W.heap[V5.heap.size]? = some (.deferred (some []))) := hD
    have HbA : Hid ((W.setCell ⟨w.heap.size, 0, none⟩ (.slice va R.length vc)).heap[w.heap.size + 1]? = some (.cells #[.int .i64 0] 33 (0, 0))) := bA
    clear hI hD hys kA bA
    subst hT0
    gi_wp2
    have kA : Kept [w.heap.size] W (W.setCell ⟨w.heap.size, 0, none⟩ (.slice va R.length vc)) := kept_setBox _ _ _
    obtain ⟨FW, hFW⟩ : ∃ FW, FW = (W.setCell ⟨w.heap.size, 0, none⟩ (.slice va R.length vc)).setCell ⟨w.heap.size + 1, 0, none⟩ (.int .i64 0) := ⟨_, rfl⟩
    have kB : Kept [w.heap.size + 1] (W.setCell ⟨w.heap.size, 0, none⟩ (.slice va R.length vc)) FW := by rw [hFW]; exact kept_setBox _ _ _
    have bF0 : FW.heap[w.heap.size]? = some (.cells #[.slice va R.length vc] 22 (0, 0)) := kB.heap (set_box HI.out.out _) (by simp)
    have bF1 : FW.heap[w.heap.size + 1]? = some (.cells #[.int .i64 0] 33 (0, 0)) := by rw [hFW]; exact set_box HbA.out _
    have hDF : FW.heap[V5.heap.size]? = some (.deferred (some [])) := kB.heap (kA.heap HD.out (by have := HS.out; simp; omega)) (by have := HS.out; simp; omega)
    have kF : Kept [] w FW := kept_box (kept_box HI.out.kept kA (Nat.le_refl _)) kB (by omega)
    have hown : RuleOwn FW w.heap.size (.slice va R.length vc) R := RuleOwn.base (ownsK_on (ownsK_on HI.out.box.own kA (fun q hq => by have h1 := (HI.out.box.own.blk hq).1; have := HS.out; simp; omega)) kB (fun q hq => by have h1 := (HI.out.box.own.blk hq).1; have := HS.out; simp; omega)) HS.out.1
    rw [← hFW]
    refine ⟨by simp, .inl ⟨_, _, rfl, run_takeDeferred hDF, ?_⟩⟩
    have e0 : (FW.putObj V5.heap.size (.deferred none)).heap[w.heap.size]? = some (.cells #[.slice va R.length vc] 22 (0, 0)) := (World.putObj_heap_other (by have := HS.out; omega)).trans bF0
    have e1 : (FW.putObj V5.heap.size (.deferred none)).heap[w.heap.size + 1]? = some (.cells #[.int .i64 0] 33 (0, 0)) := (World.putObj_heap_other (by have := HS.out; omega)).trans bF1
    have l0 := Tryd.loadRules (show (FW.putObj V5.heap.size (.deferred none)).cell? ⟨w.heap.size, 0, none⟩ = some (.slice va R.length vc) by rw [cell_of_row _ _ _ _ _ _ e0]; rfl)
    have l1 := Tryd.loadErrno (show (FW.putObj V5.heap.size (.deferred none)).cell? ⟨w.heap.size + 1, 0, none⟩ = some (.int .i64 0) by rw [cell_of_row _ _ _ _ _ _ e1]; rfl)
    have kfin : Kept [] w (FW.putObj V5.heap.size (.deferred none)) := kF.grown (grownBy_putObj' _ _ _) (fun r e => Or.inr (by cases e; exact HS.out.1))
    refine ⟨.tuple #[.slice va R.length vc, .int .i64 0], ?_, ?_, kfin⟩
    · simp [results, Tryd.results14, asAddr, l0, l1]
    · rw [HPX.out]
      refine ⟨_, rfl, ?_⟩
      exact TurnsNone.owns (B := V5.heap.size) ⟨grownBy_putObj' FW V5.heap.size (.deferred none), fun r e => by cases e; exact ⟨Nat.le_refl _, _, hDF, rfl⟩⟩ hown
  case stop =>
    rintro c pre W hS ⟨rfl, hb, hx⟩ hD
    have HPX : Hid (parseL xs = none) := by
      obtain ⟨j, rfl⟩ := hS
      exact hb.none
    have HX : Hid (PrX w W ∧ W.heap[V5.heap.size]? = some (.deferred (some []))) := ⟨hx, hD⟩
    clear hS hb hx hD
    subst hT0
    gi_wp2
    obtain ⟨FW, hFW⟩ : ∃ FW, FW = W := ⟨_, rfl⟩
    rw [← hFW] at HX
    obtain ⟨⟨bF0, bF1, kF⟩, hDF⟩ := HX.out
    rw [← hFW]
    refine ⟨by simp, .inl ⟨_, _, rfl, run_takeDeferred hDF, ?_⟩⟩
    have e0 : (FW.putObj V5.heap.size (.deferred none)).heap[w.heap.size]? = some (.cells #[.slice none 0 0] 22 (0, 0)) := (World.putObj_heap_other (by have := HS.out; omega)).trans bF0
    have e1 : (FW.putObj V5.heap.size (.deferred none)).heap[w.heap.size + 1]? = some (.cells #[.int .i64 141] 33 (0, 0)) := (World.putObj_heap_other (by have := HS.out; omega)).trans bF1
    have l0 := Tryd.loadRules (show (FW.putObj V5.heap.size (.deferred none)).cell? ⟨w.heap.size, 0, none⟩ = some (.slice none 0 0) by rw [cell_of_row _ _ _ _ _ _ e0]; rfl)
    have l1 := Tryd.loadErrno (show (FW.putObj V5.heap.size (.deferred none)).cell? ⟨w.heap.size + 1, 0, none⟩ = some (.int .i64 141) by rw [cell_of_row _ _ _ _ _ _ e1]; rfl)
    have kfin : Kept [] w (FW.putObj V5.heap.size (.deferred none)) := kF.grown (grownBy_putObj' _ _ _) (fun r e => Or.inr (by cases e; exact HS.out.1))
    refine ⟨.tuple #[.slice none 0 0, .int .i64 141], ?_, ?_, kfin⟩
    · simp [results, Tryd.results14, asAddr, l0, l1]
    · rw [HPX.out]
      rfl
end Go.Proofs.YtbdkalicgpdbkaaDoor
