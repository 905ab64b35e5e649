/-
  WALK: object.readCommit.
-/
import Derived.Test.YtddhhjgegkkjbaaGreatDoorCom3
namespace Go.Proofs.YtddhhjgegkkjbaaGreatDoor
open Go.RowKit

/-- As RV, with a list of ids beside it. -/
structure RP (w0 W : World) (r g : Nat) (xs : List Int) (p q b0 b1 bp : Nat) (c0 c1 : Array Value) (ty : TypeId) (rows : List (List Value)) : Prop where
  rv : RV w0 W r g xs p q b0 b1 c0 c1 ty
  ids : RowsIn W bp 36 rows
  a2 : b1 < bp
section
variable {w0 W W' : World} {r g : Nat} {xs : List Int} {p q p' q' b0 b1 bp : Nat} {c0 c1 : Array Value} {ty : TypeId} {rows : List (List Value)}
theorem RP.step (h : RP w0 W r g xs p q b0 b1 bp c0 c1 ty rows) (hr : Rdr W' r g xs p' q') (k : Kept [r] W W') : RP w0 W' r g xs p' q' b0 b1 bp c0 c1 ty rows :=
  ⟨h.rv.step hr k, h.ids.kept k (by have := h.rv.a0; have := h.rv.a1; have := h.a2; have := h.rv.rl; simp; omega), h.a2⟩
theorem RP.set (h : RP w0 W r g xs p q b0 b1 bp c0 c1 ty rows) (o : Nat) (v : Value) : RP w0 (W.setCell ⟨b1, o, none⟩ v) r g xs p q b0 b1 bp c0 (c1.setIfInBounds o v) ty rows :=
  ⟨h.rv.set o v, h.ids.kept (T := [b1]) ((Kept.refl _ _).setCell (Or.inl (by simp)) _) (by have := h.a2; simp; omega), h.a2⟩
theorem RP.drew (h : RP w0 W r g xs p q b0 b1 bp c0 c1 ty rows) : RP w0 W.drew r g xs p q b0 b1 bp c0 c1 ty rows := by
  have k : Kept [] W W.drew := (Kept.refl _ _).drew
  exact ⟨⟨h.rv.rd.kept k (by simp) (by simp), k.heap h.rv.v0 (by simp), k.heap h.rv.v1 (by simp), h.rv.keep.drew, h.rv.a0, h.rv.a1, h.rv.rl, h.rv.gl⟩, h.ids.kept k (by simp), h.a2⟩
theorem RP.put (h : RP w0 W r g xs p q b0 b1 bp c0 c1 ty rows) (hr : ∀ x, x ∈ rows → x.length = 32) (i : Nat) (x : List Value) (hi : rows[i]? = some x) (vs : List Value) (hv : vs.length = 32) :
    RP w0 (W.setCells bp (i * 32) vs) r g xs p q b0 b1 bp c0 c1 ty (rows.set i vs) := by
  have h1 := h.rv.a0
  have h2 := h.rv.a1
  have h3 := h.a2
  have h4 := h.rv.rl
  have h5 := h.rv.gl
  have kk : Kept [bp] W (W.setCells bp (i * 32) vs) := Kept.setCells bp (Or.inl (by simp)) _ _ _ (Kept.refl _ _)
  have hx := hr x (List.mem_of_getElem? hi)
  have hp := h.ids.put 32 (by decide) hr i x hi 0 vs (by omega)
  have e : putL x 0 vs = vs := by
    unfold putL
    rw [List.take_zero, List.nil_append, List.drop_eq_nil_of_le (by omega), List.append_nil]
  rw [e] at hp
  exact ⟨⟨h.rv.rd.kept kk (by simp; omega) (by simp; omega), kk.heap h.rv.v0 (by simp; omega), kk.heap h.rv.v1 (by simp; omega), Kept.setCells bp (Or.inr (by omega)) _ _ _ h.rv.keep, h1, h2, h4, h5⟩, hp, h3⟩
end

set_option maxRecDepth 100000 in
set_option maxHeartbeats 2000000 in
theorem readCommit_any {w : World} {r g : Nat} {xs : List Int} {pl f : Nat} (R : Rdr w r g xs pl f) (y1 y2 y3 y4 y5 : Took) (n : Nat) (ps : List (List Int)) (p q : Nat) (h1 : Hid (y1 = takeL xs pl f 3 32 0)) (h2 : Hid (y2 = takeL xs y1.pl y1.f 1 0 8)) (hn : Hid (y2.n = (n : Int)))
    (hs : Hid (rdIs xs y2.pl y2.f n = (ps, p, q))) (h3 : Hid (y3 = takeL xs p q 2 0 255)) (h4 : Hid (y4 = takeL xs y3.pl y3.f 0 8 0)) (h5 : Hid (y5 = takeL xs y4.pl y4.f 2 0 4096)) :
    Calls Tryz.prog 52 #[.pointer (some ⟨r, 0, none⟩)] w fun e w' => ∃ bp, e = .returned (.agg ((ComL.mk (idOf y1.text) ps y3.text y4.n y5.text).row (.slice (some ⟨bp, 0, none⟩) n n)).toArray) ∧ RowsIn w' bp 36 (ps.map idRow) ∧ w.heap.size ≤ bp ∧ Rdr w' r g xs y5.pl y5.f ∧ Kept [r] w w' := by
  have hl1 : (idOf y1.text).length = 32 := by rw [h1.out]; exact idOf_len (raw32_len _ _ _)
  have hb2 : 0 ≤ y2.n ∧ y2.n ≤ 8 := by rw [h2.out]; exact take_var_le xs R.oct _ _ 8 (by decide)
  rw [hn.out] at hb2
  have C1 : Hid (∀ W, Rdr W r g xs pl f → Calls Tryz.prog 66 #[.pointer (some ⟨r, 0, none⟩)] W fun e w' => e = .returned (.agg (idC (idOf y1.text))) ∧ Rdr w' r g xs y1.pl y1.f ∧ Kept [r] W w') := fun W hW => readID_any hW y1 h1
  have C2 : Hid (∀ W, Rdr W r g xs y1.pl y1.f → Calls Tryz.prog 64 #[.pointer (some ⟨r, 0, none⟩), .int .u64 8] W fun e w' => e = .returned (.int .u64 n) ∧ Rdr w' r g xs y2.pl y2.f ∧ Kept [r] W w') := fun W hW => by
    have h := Var_any hW 8 (by decide) y2 h2
    rw [hn.out] at h
    exact h
  have CI : Hid (∀ W k, Rdr W r g xs (rdIs xs y2.pl y2.f k).2.1 (rdIs xs y2.pl y2.f k).2.2 → Calls Tryz.prog 66 #[.pointer (some ⟨r, 0, none⟩)] W fun e w' => e = .returned (.agg (idC (idOf (takeL xs (rdIs xs y2.pl y2.f k).2.1 (rdIs xs y2.pl y2.f k).2.2 3 32 0).text))) ∧ Rdr w' r g xs (rdIs xs y2.pl y2.f (k + 1)).2.1 (rdIs xs y2.pl y2.f (k + 1)).2.2 ∧ Kept [r] W w') := fun W k hW => readID_any hW _ rfl
  have C3 : Hid (∀ W, Rdr W r g xs p q → Calls Tryz.prog 65 #[.pointer (some ⟨r, 0, none⟩), .int .i64 255] W fun e w' => e = .returned (.string (strOfNums y3.text)) ∧ Rdr w' r g xs y3.pl y3.f ∧ Kept [r] W w') := fun W hW => readText_any hW 255 (by decide) (by decide) y3 h3
  have C4 : Hid (∀ W, Rdr W r g xs y3.pl y3.f → Calls Tryz.prog 67 #[.pointer (some ⟨r, 0, none⟩)] W fun e w' => e = .returned (.int .u64 y4.n) ∧ Rdr w' r g xs y4.pl y4.f ∧ Kept [r] W w') := fun W hW => U64_any hW y4 h4
  have C5 : Hid (∀ W, Rdr W r g xs y4.pl y4.f → Calls Tryz.prog 65 #[.pointer (some ⟨r, 0, none⟩), .int .i64 4096] W fun e w' => e = .returned (.string (strOfNums y5.text)) ∧ Rdr w' r g xs y5.pl y5.f ∧ Kept [r] W w') := fun W hW => readText_any hW 4096 (by decide) (by decide) y5 h5
  have hrl := lt_of_block R.blk
  have hgl := lt_of_block R.row
  have HRa : Hid (Rdr (w.alloc (.cells (zeroC.row (.slice none 0 0)).toArray 102)) r g xs pl f) := R.alloc _
  have HZ : Hid ((w.alloc (.cells (zeroC.row (.slice none 0 0)).toArray 102)).heap[w.heap.size]? = some (.cells (zeroC.row (.slice none 0 0)).toArray 102 (0, 0))) := heap_alloc_new w _
  have HKa : Hid (Kept [r] w (w.alloc (.cells (zeroC.row (.slice none 0 0)).toArray 102))) := (Kept.refl _ _).alloc _
  have hbt := built_com (idOf y1.text) hl1
  obtain ⟨i0, hi, hez⟩ := Option.map_eq_some_iff.1 Tryz.zeroIDi
  simp only [Prod.mk.injEq] at hez
  obtain ⟨hz0, hz1, hz2⟩ := hez
  have hmk : ∀ W : World, (Instr.makeSlice 32 (.int .u64 (n : Int)) (.int .u64 (n : Int))).run Tryz.prog W = .ok (.slice (some ⟨W.heap.size, 0, none⟩) n n) (W.alloc (.cells (halfI [] n).flatten.toArray 36)) := fun W => by
    have h := run_make (P := Tryz.prog) W 32 36 i0 (.agg (idRow zero32).toArray) Tryz.underlying32 hi hz0 .u64 .u64 (n : Int) (n : Int) (by omega) (Int.le_refl _) (by rw [hz2]; omega) (by omega)
    rw [Int.toNat_natCast, hz1] at h
    have e : madeCells (Value.agg (idRow zero32).toArray).cells (n * 32) = (halfI [] n).flatten.toArray := by
      show madeCells (idRow zero32).toArray (n * 32) = _
      rw [made_rows (idRow zero32) 32 n (by decide) rfl]
      unfold halfI
      simp
    rw [e] at h
    exact h
  have hs0 : (Tryz.prog.info? 102).map (·.size) = some ((ComL.mk (idOf y1.text) [] [] 0 []).row (.slice none 0 0)).toArray.size := by rw [com_len _ _ hl1]; kernel_rfl
  have hz36 : ((ComL.mk (idOf y1.text) [] [] 0 []).row (.slice none 0 0)).toArray.size = 36 := com_len _ _ hl1
  have hone0 : ((ComL.mk (idOf y1.text) [] [] 0 []).row (.slice none 0 0)).toArray.all (·.oneCell') = true := com_one _ _ rfl
  clear R h1 h2 h3 h4 h5 hn hi hz0 hz1 hz2
  go_enter Tryz.func52, Tryz.ntmps52
  go_wp2_with (first
    | (go_at_call 66; refine (C1.out _ HRa.out).mono ?_; rintro e w1 ⟨rfl, hr1, hk1⟩
       have HZ1 : Hid (w1.heap[w.heap.size]? = some (.cells (zeroC.row (.slice none 0 0)).toArray 102 (0, 0))) := hk1.heap HZ.out (by simp; omega)
       have HR1 : Hid (Rdr w1 r g xs y1.pl y1.f) := hr1
       have HK1 : Hid (Kept [r] (w.alloc (.cells (zeroC.row (.slice none 0 0)).toArray 102)) w1) := hk1
       clear hr1 hk1)
    | (refine wpList_build_some (by rfl) 102 _ (by rfl) ((ComL.mk (idOf y1.text) [] [] 0 []).row (.slice none 0 0)).toArray (by simp; exact hbt) ?_)
    | (refine wpList_store_new (by rfl) 102 (.tmp 3) (.tmp 7) (by rfl) w1 _ ((ComL.mk (idOf y1.text) [] [] 0 []).row (.slice none 0 0)).toArray (by rfl) (by rfl) hs0 (by rw [hz36]; rfl) hone0 ?_
       have HV1 : Hid (RV w (w1.alloc (.cells ((ComL.mk (idOf y1.text) [] [] 0 []).row (.slice none 0 0)).toArray 102)) r g xs y1.pl y1.f w.heap.size w1.heap.size (zeroC.row (.slice none 0 0)).toArray ((ComL.mk (idOf y1.text) [] [] 0 []).row (.slice none 0 0)).toArray 102) :=
         ⟨HR1.out.alloc _, (Below.heap_alloc _ _ _ (lt_of_block HZ1.out)).trans HZ1.out, heap_alloc_new w1 _, (HKa.out.then HK1.out).alloc _, Nat.le_refl _, lt_of_block HZ1.out, hrl, hgl⟩)
    | (go_at_call 64; refine (C2.out _ HV1.out.rd).mono ?_; rintro e w2 ⟨rfl, hr2, hk2⟩
       have hv2 := HV1.out.step hr2 hk2
       have hkA : Kept [] w2 (w2.alloc (.cells (halfI [] n).flatten.toArray 36)) := (Kept.refl _ _).alloc _
       have hpA : RP w (w2.alloc (.cells (halfI [] n).flatten.toArray 36)) r g xs y2.pl y2.f w.heap.size w1.heap.size w2.heap.size (zeroC.row (.slice none 0 0)).toArray ((ComL.mk (idOf y1.text) [] [] 0 []).row (.slice none 0 0)).toArray 102 (halfI [] n) :=
         ⟨⟨hv2.rd.alloc _, hkA.heap hv2.v0 (by simp), hkA.heap hv2.v1 (by simp), hv2.keep.alloc _, hv2.a0, hv2.a1, hv2.rl, hv2.gl⟩, heap_alloc_new w2 _, lt_of_block hv2.v1⟩
       have d2 := (com_cells (b := w1.heap.size) (c := ComL.mk (idOf y1.text) [] [] 0 []) hl1 hpA.rv.v1).2.1
       have f2 := frozen_of_row _ _ 32 _ _ hpA.rv.v1
       have HP2 : Hid (RP w ((w2.alloc (.cells (halfI [] n).flatten.toArray 36)).setCell ⟨w1.heap.size, 32, none⟩ (.slice (some ⟨w2.heap.size, 0, none⟩) n n)) r g xs y2.pl y2.f w.heap.size w1.heap.size w2.heap.size (zeroC.row (.slice none 0 0)).toArray ((ComL.mk (idOf y1.text) ps [] 0 []).row (.slice (some ⟨w2.heap.size, 0, none⟩) n n)).toArray 102 (halfI [] n)) := by
         have h := hpA.set 32 (.slice (some ⟨w2.heap.size, 0, none⟩) n n)
         rw [(com_set (ComL.mk (idOf y1.text) [] [] 0 []) _ hl1).1 _ ps] at h
         exact h
       have e2 := (com_cells (b := w1.heap.size) (c := ComL.mk (idOf y1.text) ps [] 0 []) hl1 HP2.out.rv.v1).2.1
       clear hr2 hk2 hv2 hkA hpA))
  clear C1 C2 HRa HZ HKa HR1 HK1 HZ1 HV1 hmk hbt hs0 hz36 hone0
  generalize w2.heap.size = bp at *
  generalize w1.heap.size = b1 at *
  go_loopw [4, 15] (fun _ s15 wr => ∃ k : Nat, k ≤ n ∧ s15 = .int .i64 k ∧ Hid (RP w wr r g xs (rdIs xs y2.pl y2.f k).2.1 (rdIs xs y2.pl y2.f k).2.2 w.heap.size b1 bp (zeroC.row (.slice none 0 0)).toArray ((ComL.mk (idOf y1.text) ps [] 0 []).row (.slice (some ⟨bp, 0, none⟩) n n)).toArray 102 (halfI (rdIs xs y2.pl y2.f k).1 n))) (fun _ s15 _ => n - (intOf s15).toNat)
  case atStart => exact ⟨0, Nat.zero_le _, rfl, HP2⟩
  case round =>
    clear HP2 d2 f2 e2
    obtain ⟨k, hk, rfl, HP⟩ := hrel
    by_cases hlt : k < n
    · have hlk := rdIs_len xs y2.pl y2.f k
      have hidk := rdIs_ids xs y2.pl y2.f k
      have HPd : Hid (RP w wr.drew r g xs (rdIs xs y2.pl y2.f k).2.1 (rdIs xs y2.pl y2.f k).2.2 w.heap.size b1 bp (zeroC.row (.slice none 0 0)).toArray ((ComL.mk (idOf y1.text) ps [] 0 []).row (.slice (some ⟨bp, 0, none⟩) n n)).toArray 102 (halfI (rdIs xs y2.pl y2.f k).1 n)) := HP.out.drew
      have hcall := CI.out wr.drew k HPd.out.rv.rd
      have HE : Hid ((rdIs xs y2.pl y2.f (k + 1)).1 = (rdIs xs y2.pl y2.f k).1 ++ [idOf (takeL xs (rdIs xs y2.pl y2.f k).2.1 (rdIs xs y2.pl y2.f k).2.2 3 32 0).text]) := rfl
      have hl3 : (idOf (takeL xs (rdIs xs y2.pl y2.f k).2.1 (rdIs xs y2.pl y2.f k).2.2 3 32 0).text).length = 32 := idOf_len (raw32_len _ _ _)
      generalize idOf (takeL xs (rdIs xs y2.pl y2.f k).2.1 (rdIs xs y2.pl y2.f k).2.2 3 32 0).text = x at *
      generalize hL : (rdIs xs y2.pl y2.f k).1 = l at *
      clear hL
      have hrow : ∀ z, z ∈ halfI l n → z.length = 32 := halfI_row l n hidk
      have hat : (halfI l n)[k]? = some (idRow zero32) := by have h := halfI_at l n (by omega); rw [hlk] at h; exact h
      have HPUT : Hid ((halfI l n).set k (idRow x) = halfI (l ++ [x]) n) := by
        have h := halfI_put l n (by omega) x
        rw [hlk] at h
        exact h
      have x1 := (com_cells (b := b1) (c := ComL.mk (idOf y1.text) ps [] 0 []) hl1 HP.out.rv.v1).2.1
      have x2 := (com_cells (b := b1) (c := ComL.mk (idOf y1.text) ps [] 0 []) hl1 HPd.out.rv.v1).2.1
      have hsi : (Tryz.prog.info? 36).map (·.size) = some (idC x).size := by rw [idC_size hl3]; exact Tryz.infoID
      have hai : (idC x).all (·.oneCell') = true := all_oneCell_toArray (map_oneCell _)
      have h32 : (idC x).size = 32 := idC_size hl3
      have HT3 : Hid ((idC x).toList = idRow x) := rfl
      go_wp2_with fail
      go_region_law (
          (go_simp; go_at_call 66; refine hcall.mono ?_; rintro e w5 ⟨rfl, hr5, hk5⟩
           have HP5 : Hid (RP w w5 r g xs (rdIs xs y2.pl y2.f (k + 1)).2.1 (rdIs xs y2.pl y2.f (k + 1)).2.2 w.heap.size b1 bp (zeroC.row (.slice none 0 0)).toArray ((ComL.mk (idOf y1.text) ps [] 0 []).row (.slice (some ⟨bp, 0, none⟩) n n)).toArray 102 (halfI l n)) := HPd.out.step hr5 hk5
           have x3 := (com_cells (b := b1) (c := ComL.mk (idOf y1.text) ps [] 0 []) hl1 HP5.out.rv.v1).2.1
           have hst : (storeCells ⟨bp, k * 32, none⟩ (idC x).toList).run Tryz.prog w5 = .ok () (w5.setCells bp (k * 32) (idC x).toList) := run_store_list w5 bp (k * 32) (idC x).toList (by
             rw [show (idC x).toList.length = 32 by rw [Array.length_toList]; exact h32]
             exact HP5.out.ids.there 32 (by decide) hrow k _ hat 0 32 (by decide)) (map_oneCell x)
           have HP6 : Hid (RP w (w5.setCells bp (k * 32) (idC x).toList) r g xs (rdIs xs y2.pl y2.f (k + 1)).2.1 (rdIs xs y2.pl y2.f (k + 1)).2.2 w.heap.size b1 bp (zeroC.row (.slice none 0 0)).toArray ((ComL.mk (idOf y1.text) ps [] 0 []).row (.slice (some ⟨bp, 0, none⟩) n n)).toArray 102 (halfI (l ++ [x]) n)) := by
             have h := HP5.out.put hrow k _ hat (idRow x) (by unfold idRow; rw [List.length_map]; exact hl3)
             rw [HPUT.out] at h
             exact h
           clear hr5 hk5))
      all_goals go_wp2
      all_goals go_roundw
      all_goals first
        | exact ⟨k + 1, by omega, by go_num, by rw [HE.out]; exact HP6⟩
        | (simp [intOf]; omega)
    · obtain rfl : n = k := by omega
      have HPn : Hid (RP w wr r g xs p q w.heap.size b1 bp (zeroC.row (.slice none 0 0)).toArray ((ComL.mk (idOf y1.text) ps [] 0 []).row (.slice (some ⟨bp, 0, none⟩) n n)).toArray 102 (ps.map idRow)) := by
        have h := HP.out
        unfold halfI at h
        rw [rdIs_len, Nat.sub_self, List.replicate_zero, List.append_nil, hs.out] at h
        exact h
      clear HP CI
      have hone6 : ((ComL.mk (idOf y1.text) ps y3.text y4.n y5.text).row (.slice (some ⟨bp, 0, none⟩) n n)).toArray.all (·.oneCell') = true := com_one _ _ rfl
      have hs6 : (Tryz.prog.info? 102).map (·.size) = some ((ComL.mk (idOf y1.text) ps y3.text y4.n y5.text).row (.slice (some ⟨bp, 0, none⟩) n n)).toArray.size := by rw [com_len _ _ hl1]; kernel_rfl
      have hz6 : (zeroC.row (.slice none 0 0)).toArray.size = ((ComL.mk (idOf y1.text) ps y3.text y4.n y5.text).row (.slice (some ⟨bp, 0, none⟩) n n)).toArray.size := by rw [com_len (ComL.mk (idOf y1.text) ps y3.text y4.n y5.text) _ hl1]; rfl
      go_wp2_with (first
        | (go_at_call 65; (with_reducible refine (C3.out _ HPn.out.rv.rd).mono ?_); rintro e w6 ⟨rfl, hr6, hk6⟩
           have hv6 := HPn.out.step hr6 hk6
           have d6 := (com_cells (b := b1) (c := ComL.mk (idOf y1.text) ps [] 0 []) (pv := (.slice (some ⟨bp, 0, none⟩) n n)) hl1 hv6.rv.v1).2.2.1
           have f6 := frozen_of_row _ _ 33 _ _ hv6.rv.v1
           have HQ6 : Hid (RP w (w6.setCell ⟨b1, 33, none⟩ (.string (strOfNums y3.text))) r g xs y3.pl y3.f w.heap.size b1 bp (zeroC.row (.slice none 0 0)).toArray ((ComL.mk (idOf y1.text) ps y3.text 0 []).row (.slice (some ⟨bp, 0, none⟩) n n)).toArray 102 (ps.map idRow)) := by
             have h := hv6.set 33 (.string (strOfNums y3.text))
             rw [(com_set (ComL.mk (idOf y1.text) ps [] 0 []) (.slice (some ⟨bp, 0, none⟩) n n) hl1).2.1] at h
             exact h
           clear hr6 hk6 hv6)
        | (go_at_call 67; (with_reducible refine (C4.out _ HQ6.out.rv.rd).mono ?_); rintro e w7 ⟨rfl, hr7, hk7⟩
           have hv7 := HQ6.out.step hr7 hk7
           have d7 := (com_cells (b := b1) (c := ComL.mk (idOf y1.text) ps y3.text 0 []) (pv := (.slice (some ⟨bp, 0, none⟩) n n)) hl1 hv7.rv.v1).2.2.2.1
           have f7 := frozen_of_row _ _ 34 _ _ hv7.rv.v1
           have HQ7 : Hid (RP w (w7.setCell ⟨b1, 34, none⟩ (.int .u64 y4.n)) r g xs y4.pl y4.f w.heap.size b1 bp (zeroC.row (.slice none 0 0)).toArray ((ComL.mk (idOf y1.text) ps y3.text y4.n []).row (.slice (some ⟨bp, 0, none⟩) n n)).toArray 102 (ps.map idRow)) := by
             have h := hv7.set 34 (.int .u64 y4.n)
             rw [(com_set (ComL.mk (idOf y1.text) ps y3.text 0 []) (.slice (some ⟨bp, 0, none⟩) n n) hl1).2.2.1] at h
             exact h
           clear hr7 hk7 hv7)
        | (go_at_call 65; (with_reducible refine (C5.out _ HQ7.out.rv.rd).mono ?_); rintro e w8 ⟨rfl, hr8, hk8⟩
           have hv8 := HQ7.out.step hr8 hk8
           have d8 := (com_cells (b := b1) (c := ComL.mk (idOf y1.text) ps y3.text y4.n []) (pv := (.slice (some ⟨bp, 0, none⟩) n n)) hl1 hv8.rv.v1).2.2.2.2
           have f8 := frozen_of_row _ _ 35 _ _ hv8.rv.v1
           have HQ8 : Hid (RP w (w8.setCell ⟨b1, 35, none⟩ (.string (strOfNums y5.text))) r g xs y5.pl y5.f w.heap.size b1 bp (zeroC.row (.slice none 0 0)).toArray ((ComL.mk (idOf y1.text) ps y3.text y4.n y5.text).row (.slice (some ⟨bp, 0, none⟩) n n)).toArray 102 (ps.map idRow)) := by
             have h := hv8.set 35 (.string (strOfNums y5.text))
             rw [(com_set (ComL.mk (idOf y1.text) ps y3.text y4.n []) (.slice (some ⟨bp, 0, none⟩) n n) hl1).2.2.2] at h
             exact h
           clear hr8 hk8 hv8)
        | (refine wpList_load_row (by rfl) 102 (.tmp 3) (by rfl) b1 (by rfl) 102 ((ComL.mk (idOf y1.text) ps y3.text y4.n y5.text).row (.slice (some ⟨bp, 0, none⟩) n n)).toArray (0, 0) _ HQ8.out.rv.v1 Tryz.underlying102 rfl hs6 ?_)
        | (refine wpList_store_row (by rfl) 102 (.tmp 2) (.tmp 34) (by rfl) w.heap.size ((ComL.mk (idOf y1.text) ps y3.text y4.n y5.text).row (.slice (some ⟨bp, 0, none⟩) n n)).toArray (by rfl) (by rfl) 102 _ HQ8.out.rv.v0 hs6 hz6 hone6 ?_))
      have hbl := HQ8.out.a2
      have hbl2 := HQ8.out.rv.a1
      refine bodyPost_ret (v := .agg ((ComL.mk (idOf y1.text) ps y3.text y4.n y5.text).row (.slice (some ⟨bp, 0, none⟩) n n)).toArray) ?_ rfl ⟨bp, rfl, ?_, by omega, ?_, ?_⟩
      · rw [results_cell1 rfl]
        have hld := run_loadVar_row (P := Tryz.prog) ((w8.setCell ⟨b1, 35, none⟩ (.string (strOfNums y5.text))).setRow w.heap.size ((ComL.mk (idOf y1.text) ps y3.text y4.n y5.text).row (.slice (some ⟨bp, 0, none⟩) n n)).toArray) w.heap.size 102 102 ((ComL.mk (idOf y1.text) ps y3.text y4.n y5.text).row (.slice (some ⟨bp, 0, none⟩) n n)).toArray (0, 0) _ (setRow_heap _ _ _ _ _ _ HQ8.out.rv.v0) Tryz.underlying102 rfl hs6
        exact hld
      · exact (setRow_other _ _ _ _ (by omega)).trans HQ8.out.ids
      · exact HQ8.out.rv.rd.below (below_setRow (Below.refl w.heap.size _) (Nat.le_refl _) _) hrl hgl
      · exact kept_below HQ8.out.rv.keep (below_setRow (Below.refl w.heap.size _) (Nat.le_refl _) _) (Nat.le_refl _)
end Go.Proofs.YtddhhjgegkkjbaaGreatDoor
