/-
  WALK: object.readCommit.
  Objects as values; WALK: object.contentOf.
  WALK: satchelref3.lay of a tag: the tag's encoding.
-/
import Derived.Test.YtfcoeinhfdbcgaaGreatDoorCom3
import Derived.Test.YtfcoeinhfdbcgaaGreatDoorRe0
import Derived.Test.YtfcoeinhfdbcgaaGreatDoorCom0
namespace Go.Proofs.YtfcoeinhfdbcgaaGreatDoor
open Go.RowKit

/-- As RV, with a list of ids beside it. -/
structure RP (w0 W : World) (r g : Nat) (xs : List Int) (p q b0 b1 bp : Nat) (c0 c1 : Array Value) (ty : TypeId) (rows : List (List Value)) : Prop where
  rv : RV w0 W r g xs p q b0 b1 c0 c1 ty
  ids : RowsIn W bp 29 rows
  a2 : b1 < bp
section
variable {w0 W W' : World} {r g : Nat} {xs : List Int} {p q p' q' b0 b1 bp : Nat} {c0 c1 : Array Value} {ty : TypeId} {rows : List (List Value)}
theorem RP.step (h : RP w0 W r g xs p q b0 b1 bp c0 c1 ty rows) (hr : Rdr W' r g xs p' q') (k : Kept [r] W W') : RP w0 W' r g xs p' q' b0 b1 bp c0 c1 ty rows :=
  ⟨h.rv.step hr k, h.ids.kept k (by have := h.rv.a0; have := h.rv.a1; have := h.a2; have := h.rv.rl; simp; omega), h.a2⟩
theorem RP.set (h : RP w0 W r g xs p q b0 b1 bp c0 c1 ty rows) (o : Nat) (v : Value) : RP w0 (W.setCell ⟨b1, o, none⟩ v) r g xs p q b0 b1 bp c0 (c1.setIfInBounds o v) ty rows :=
  ⟨h.rv.set o v, h.ids.kept (T := [b1]) ((Kept.refl _ _).setCell (Or.inl (by simp)) _) (by have := h.a2; simp; omega), h.a2⟩
theorem RP.drew (h : RP w0 W r g xs p q b0 b1 bp c0 c1 ty rows) : RP w0 W.drew r g xs p q b0 b1 bp c0 c1 ty rows := by
  have k : Kept [] W W.drew := (Kept.refl _ _).drew
  exact ⟨⟨h.rv.rd.kept k (by simp) (by simp), k.heap h.rv.v0 (by simp), k.heap h.rv.v1 (by simp), h.rv.keep.drew, h.rv.a0, h.rv.a1, h.rv.rl, h.rv.gl⟩, h.ids.kept k (by simp), h.a2⟩
theorem RP.put (h : RP w0 W r g xs p q b0 b1 bp c0 c1 ty rows) (hr : ∀ x, x ∈ rows → x.length = 32) (i : Nat) (x : List Value) (hi : rows[i]? = some x) (vs : List Value) (hv : vs.length = 32) :
    RP w0 (W.setCells bp (i * 32) vs) r g xs p q b0 b1 bp c0 c1 ty (rows.set i vs) := by
  have h1 := h.rv.a0
  have h2 := h.rv.a1
  have h3 := h.a2
  have h4 := h.rv.rl
  have h5 := h.rv.gl
  have kk : Kept [bp] W (W.setCells bp (i * 32) vs) := Kept.setCells bp (Or.inl (by simp)) _ _ _ (Kept.refl _ _)
  have hx := hr x (List.mem_of_getElem? hi)
  have hp := h.ids.put 32 (by decide) hr i x hi 0 vs (by omega)
  have e : putL x 0 vs = vs := by
    unfold putL
    rw [List.take_zero, List.nil_append, List.drop_eq_nil_of_le (by omega), List.append_nil]
  rw [e] at hp
  exact ⟨⟨h.rv.rd.kept kk (by simp; omega) (by simp; omega), kk.heap h.rv.v0 (by simp; omega), kk.heap h.rv.v1 (by simp; omega), Kept.setCells bp (Or.inr (by omega)) _ _ _ h.rv.keep, h1, h2, h4, h5⟩, hp, h3⟩
end

set_option maxRecDepth 100000 in
set_option maxHeartbeats 2000000 in
theorem readCommit_any {w : World} {r g : Nat} {xs : List Int} {pl f : Nat} (R : Rdr w r g xs pl f) (y1 y2 y3 y4 y5 : Took) (n : Nat) (ps : List (List Int)) (p q : Nat) (h1 : Hid (y1 = takeL xs pl f 3 32 0)) (h2 : Hid (y2 = takeL xs y1.pl y1.f 1 0 8)) (hn : Hid (y2.n = (n : Int)))
    (hs : Hid (rdIs xs y2.pl y2.f n = (ps, p, q))) (h3 : Hid (y3 = takeL xs p q 2 0 255)) (h4 : Hid (y4 = takeL xs y3.pl y3.f 0 8 0)) (h5 : Hid (y5 = takeL xs y4.pl y4.f 2 0 4096)) :
    Calls Tryz.prog 48 #[.pointer (some ⟨r, 0, none⟩)] w fun e w' => ∃ bp, e = .returned (.agg ((ComL.mk (idOf y1.text) ps y3.text y4.n y5.text).row (.slice (some ⟨bp, 0, none⟩) n n)).toArray) ∧ RowsIn w' bp 29 (ps.map idRow) ∧ w.heap.size ≤ bp ∧ Rdr w' r g xs y5.pl y5.f ∧ Kept [r] w w' := by
  have hl1 : (idOf y1.text).length = 32 := by rw [h1.out]; exact idOf_len (raw32_len _ _ _)
  have hb2 : 0 ≤ y2.n ∧ y2.n ≤ 8 := by rw [h2.out]; exact take_var_le xs R.oct _ _ 8 (by decide)
  rw [hn.out] at hb2
  have C1 : Hid (∀ W, Rdr W r g xs pl f → Calls Tryz.prog 75 #[.pointer (some ⟨r, 0, none⟩)] W fun e w' => e = .returned (.agg (idC (idOf y1.text))) ∧ Rdr w' r g xs y1.pl y1.f ∧ Kept [r] W w') := fun W hW => readID_any hW y1 h1
  have C2 : Hid (∀ W, Rdr W r g xs y1.pl y1.f → Calls Tryz.prog 73 #[.pointer (some ⟨r, 0, none⟩), .int .u64 8] W fun e w' => e = .returned (.int .u64 n) ∧ Rdr w' r g xs y2.pl y2.f ∧ Kept [r] W w') := fun W hW => by
    have h := Var_any hW 8 (by decide) y2 h2
    rw [hn.out] at h
    exact h
  have CI : Hid (∀ W k, Rdr W r g xs (rdIs xs y2.pl y2.f k).2.1 (rdIs xs y2.pl y2.f k).2.2 → Calls Tryz.prog 75 #[.pointer (some ⟨r, 0, none⟩)] W fun e w' => e = .returned (.agg (idC (idOf (takeL xs (rdIs xs y2.pl y2.f k).2.1 (rdIs xs y2.pl y2.f k).2.2 3 32 0).text))) ∧ Rdr w' r g xs (rdIs xs y2.pl y2.f (k + 1)).2.1 (rdIs xs y2.pl y2.f (k + 1)).2.2 ∧ Kept [r] W w') := fun W k hW => readID_any hW _ rfl
  have C3 : Hid (∀ W, Rdr W r g xs p q → Calls Tryz.prog 74 #[.pointer (some ⟨r, 0, none⟩), .int .i64 255] W fun e w' => e = .returned (.string (strOfNums y3.text)) ∧ Rdr w' r g xs y3.pl y3.f ∧ Kept [r] W w') := fun W hW => readText_any hW 255 (by decide) (by decide) y3 h3
  have C4 : Hid (∀ W, Rdr W r g xs y3.pl y3.f → Calls Tryz.prog 76 #[.pointer (some ⟨r, 0, none⟩)] W fun e w' => e = .returned (.int .u64 y4.n) ∧ Rdr w' r g xs y4.pl y4.f ∧ Kept [r] W w') := fun W hW => U64_any hW y4 h4
  have C5 : Hid (∀ W, Rdr W r g xs y4.pl y4.f → Calls Tryz.prog 74 #[.pointer (some ⟨r, 0, none⟩), .int .i64 4096] W fun e w' => e = .returned (.string (strOfNums y5.text)) ∧ Rdr w' r g xs y5.pl y5.f ∧ Kept [r] W w') := fun W hW => readText_any hW 4096 (by decide) (by decide) y5 h5
  have hrl := lt_of_block R.blk
  have hgl := lt_of_block R.row
  have HRa : Hid (Rdr (w.alloc (.cells (zeroC.row (.slice none 0 0)).toArray 90)) r g xs pl f) := R.alloc _
  have HZ : Hid ((w.alloc (.cells (zeroC.row (.slice none 0 0)).toArray 90)).heap[w.heap.size]? = some (.cells (zeroC.row (.slice none 0 0)).toArray 90 (0, 0))) := heap_alloc_new w _
  have HKa : Hid (Kept [r] w (w.alloc (.cells (zeroC.row (.slice none 0 0)).toArray 90))) := (Kept.refl _ _).alloc _
  have hbt := built_com (idOf y1.text) hl1
  obtain ⟨i0, hi, hez⟩ := Option.map_eq_some_iff.1 Tryz.zeroIDi
  simp only [Prod.mk.injEq] at hez
  obtain ⟨hz0, hz1, hz2⟩ := hez
  have hmk : ∀ W : World, (Instr.makeSlice 30 (.int .u64 (n : Int)) (.int .u64 (n : Int))).run Tryz.prog W = .ok (.slice (some ⟨W.heap.size, 0, none⟩) n n) (W.alloc (.cells (halfI [] n).flatten.toArray 29)) := fun W => by
    have h := run_make (P := Tryz.prog) W 30 29 i0 (.agg (idRow zero32).toArray) Tryz.underlying30 hi hz0 .u64 .u64 (n : Int) (n : Int) (by omega) (Int.le_refl _) (by rw [hz2]; omega) (by omega)
    rw [Int.toNat_natCast, hz1] at h
    have e : madeCells (Value.agg (idRow zero32).toArray).cells (n * 32) = (halfI [] n).flatten.toArray := by
      show madeCells (idRow zero32).toArray (n * 32) = _
      rw [made_rows (idRow zero32) 32 n (by decide) rfl]
      unfold halfI
      simp
    rw [e] at h
    exact h
  have hs0 : (Tryz.prog.info? 90).map (·.size) = some ((ComL.mk (idOf y1.text) [] [] 0 []).row (.slice none 0 0)).toArray.size := by rw [com_len _ _ hl1]; kernel_rfl
  have hz36 : ((ComL.mk (idOf y1.text) [] [] 0 []).row (.slice none 0 0)).toArray.size = 36 := com_len _ _ hl1
  have hone0 : ((ComL.mk (idOf y1.text) [] [] 0 []).row (.slice none 0 0)).toArray.all (·.oneCell') = true := com_one _ _ rfl
  clear R h1 h2 h3 h4 h5 hn hi hz0 hz1 hz2
  go_enter Tryz.func48, Tryz.ntmps48
  go_wp2_with (first
    | (go_at_call 75; refine (C1.out _ HRa.out).mono ?_; rintro e w1 ⟨rfl, hr1, hk1⟩
       have HZ1 : Hid (w1.heap[w.heap.size]? = some (.cells (zeroC.row (.slice none 0 0)).toArray 90 (0, 0))) := hk1.heap HZ.out (by simp; omega)
       have HR1 : Hid (Rdr w1 r g xs y1.pl y1.f) := hr1
       have HK1 : Hid (Kept [r] (w.alloc (.cells (zeroC.row (.slice none 0 0)).toArray 90)) w1) := hk1
       clear hr1 hk1)
    | (refine wpList_build_some (by rfl) 90 _ (by rfl) ((ComL.mk (idOf y1.text) [] [] 0 []).row (.slice none 0 0)).toArray (by simp; exact hbt) ?_)
    | (refine wpList_store_new (by rfl) 90 (.tmp 3) (.tmp 7) (by rfl) w1 _ ((ComL.mk (idOf y1.text) [] [] 0 []).row (.slice none 0 0)).toArray (by rfl) (by rfl) hs0 (by rw [hz36]; rfl) hone0 ?_
       have HV1 : Hid (RV w (w1.alloc (.cells ((ComL.mk (idOf y1.text) [] [] 0 []).row (.slice none 0 0)).toArray 90)) r g xs y1.pl y1.f w.heap.size w1.heap.size (zeroC.row (.slice none 0 0)).toArray ((ComL.mk (idOf y1.text) [] [] 0 []).row (.slice none 0 0)).toArray 90) :=
         ⟨HR1.out.alloc _, (Below.heap_alloc _ _ _ (lt_of_block HZ1.out)).trans HZ1.out, heap_alloc_new w1 _, (HKa.out.then HK1.out).alloc _, Nat.le_refl _, lt_of_block HZ1.out, hrl, hgl⟩)
    | (go_at_call 73; refine (C2.out _ HV1.out.rd).mono ?_; rintro e w2 ⟨rfl, hr2, hk2⟩
       have hv2 := HV1.out.step hr2 hk2
       have hkA : Kept [] w2 (w2.alloc (.cells (halfI [] n).flatten.toArray 29)) := (Kept.refl _ _).alloc _
       have hpA : RP w (w2.alloc (.cells (halfI [] n).flatten.toArray 29)) r g xs y2.pl y2.f w.heap.size w1.heap.size w2.heap.size (zeroC.row (.slice none 0 0)).toArray ((ComL.mk (idOf y1.text) [] [] 0 []).row (.slice none 0 0)).toArray 90 (halfI [] n) :=
         ⟨⟨hv2.rd.alloc _, hkA.heap hv2.v0 (by simp), hkA.heap hv2.v1 (by simp), hv2.keep.alloc _, hv2.a0, hv2.a1, hv2.rl, hv2.gl⟩, heap_alloc_new w2 _, lt_of_block hv2.v1⟩
       have d2 := (com_cells (b := w1.heap.size) (c := ComL.mk (idOf y1.text) [] [] 0 []) hl1 hpA.rv.v1).2.1
       have f2 := frozen_of_row _ _ 32 _ _ hpA.rv.v1
       have HP2 : Hid (RP w ((w2.alloc (.cells (halfI [] n).flatten.toArray 29)).setCell ⟨w1.heap.size, 32, none⟩ (.slice (some ⟨w2.heap.size, 0, none⟩) n n)) r g xs y2.pl y2.f w.heap.size w1.heap.size w2.heap.size (zeroC.row (.slice none 0 0)).toArray ((ComL.mk (idOf y1.text) ps [] 0 []).row (.slice (some ⟨w2.heap.size, 0, none⟩) n n)).toArray 90 (halfI [] n)) := by
         have h := hpA.set 32 (.slice (some ⟨w2.heap.size, 0, none⟩) n n)
         rw [(com_set (ComL.mk (idOf y1.text) [] [] 0 []) _ hl1).1 _ ps] at h
         exact h
       have e2 := (com_cells (b := w1.heap.size) (c := ComL.mk (idOf y1.text) ps [] 0 []) hl1 HP2.out.rv.v1).2.1
       clear hr2 hk2 hv2 hkA hpA))
  clear C1 C2 HRa HZ HKa HR1 HK1 HZ1 HV1 hmk hbt hs0 hz36 hone0
  generalize w2.heap.size = bp at *
  generalize w1.heap.size = b1 at *
  go_loopw [4, 15] (fun _ s15 wr => ∃ k : Nat, k ≤ n ∧ s15 = .int .i64 k ∧ Hid (RP w wr r g xs (rdIs xs y2.pl y2.f k).2.1 (rdIs xs y2.pl y2.f k).2.2 w.heap.size b1 bp (zeroC.row (.slice none 0 0)).toArray ((ComL.mk (idOf y1.text) ps [] 0 []).row (.slice (some ⟨bp, 0, none⟩) n n)).toArray 90 (halfI (rdIs xs y2.pl y2.f k).1 n))) (fun _ s15 _ => n - (intOf s15).toNat)
  case atStart => exact ⟨0, Nat.zero_le _, rfl, HP2⟩
  case round =>
    clear HP2 d2 f2 e2
    obtain ⟨k, hk, rfl, HP⟩ := hrel
    by_cases hlt : k < n
    · have hlk := rdIs_len xs y2.pl y2.f k
      have hidk := rdIs_ids xs y2.pl y2.f k
      have HPd : Hid (RP w wr.drew r g xs (rdIs xs y2.pl y2.f k).2.1 (rdIs xs y2.pl y2.f k).2.2 w.heap.size b1 bp (zeroC.row (.slice none 0 0)).toArray ((ComL.mk (idOf y1.text) ps [] 0 []).row (.slice (some ⟨bp, 0, none⟩) n n)).toArray 90 (halfI (rdIs xs y2.pl y2.f k).1 n)) := HP.out.drew
      have hcall := CI.out wr.drew k HPd.out.rv.rd
      have HE : Hid ((rdIs xs y2.pl y2.f (k + 1)).1 = (rdIs xs y2.pl y2.f k).1 ++ [idOf (takeL xs (rdIs xs y2.pl y2.f k).2.1 (rdIs xs y2.pl y2.f k).2.2 3 32 0).text]) := rfl
      have hl3 : (idOf (takeL xs (rdIs xs y2.pl y2.f k).2.1 (rdIs xs y2.pl y2.f k).2.2 3 32 0).text).length = 32 := idOf_len (raw32_len _ _ _)
      generalize idOf (takeL xs (rdIs xs y2.pl y2.f k).2.1 (rdIs xs y2.pl y2.f k).2.2 3 32 0).text = x at *
      generalize hL : (rdIs xs y2.pl y2.f k).1 = l at *
      clear hL
      have hrow : ∀ z, z ∈ halfI l n → z.length = 32 := halfI_row l n hidk
      have hat : (halfI l n)[k]? = some (idRow zero32) := by have h := halfI_at l n (by omega); rw [hlk] at h; exact h
      have HPUT : Hid ((halfI l n).set k (idRow x) = halfI (l ++ [x]) n) := by
        have h := halfI_put l n (by omega) x
        rw [hlk] at h
        exact h
      have x1 := (com_cells (b := b1) (c := ComL.mk (idOf y1.text) ps [] 0 []) hl1 HP.out.rv.v1).2.1
      have x2 := (com_cells (b := b1) (c := ComL.mk (idOf y1.text) ps [] 0 []) hl1 HPd.out.rv.v1).2.1
      have hsi : (Tryz.prog.info? 29).map (·.size) = some (idC x).size := by rw [idC_size hl3]; exact Tryz.infoID
      have hai : (idC x).all (·.oneCell') = true := all_oneCell_toArray (map_oneCell _)
      have h32 : (idC x).size = 32 := idC_size hl3
      have HT3 : Hid ((idC x).toList = idRow x) := rfl
      go_wp2_with fail
      go_region_law (
          (go_simp; go_at_call 75; refine hcall.mono ?_; rintro e w5 ⟨rfl, hr5, hk5⟩
           have HP5 : Hid (RP w w5 r g xs (rdIs xs y2.pl y2.f (k + 1)).2.1 (rdIs xs y2.pl y2.f (k + 1)).2.2 w.heap.size b1 bp (zeroC.row (.slice none 0 0)).toArray ((ComL.mk (idOf y1.text) ps [] 0 []).row (.slice (some ⟨bp, 0, none⟩) n n)).toArray 90 (halfI l n)) := HPd.out.step hr5 hk5
           have x3 := (com_cells (b := b1) (c := ComL.mk (idOf y1.text) ps [] 0 []) hl1 HP5.out.rv.v1).2.1
           have hst : (storeCells ⟨bp, k * 32, none⟩ (idC x).toList).run Tryz.prog w5 = .ok () (w5.setCells bp (k * 32) (idC x).toList) := run_store_list w5 bp (k * 32) (idC x).toList (by
             rw [show (idC x).toList.length = 32 by rw [Array.length_toList]; exact h32]
             exact HP5.out.ids.there 32 (by decide) hrow k _ hat 0 32 (by decide)) (map_oneCell x)
           have HP6 : Hid (RP w (w5.setCells bp (k * 32) (idC x).toList) r g xs (rdIs xs y2.pl y2.f (k + 1)).2.1 (rdIs xs y2.pl y2.f (k + 1)).2.2 w.heap.size b1 bp (zeroC.row (.slice none 0 0)).toArray ((ComL.mk (idOf y1.text) ps [] 0 []).row (.slice (some ⟨bp, 0, none⟩) n n)).toArray 90 (halfI (l ++ [x]) n)) := by
             have h := HP5.out.put hrow k _ hat (idRow x) (by unfold idRow; rw [List.length_map]; exact hl3)
             rw [HPUT.out] at h
             exact h
           clear hr5 hk5))
      all_goals go_wp2
      all_goals go_roundw
      all_goals first
        | exact ⟨k + 1, by omega, by go_num, by rw [HE.out]; exact HP6⟩
        | (simp [intOf]; omega)
    · obtain rfl : n = k := by omega
      have HPn : Hid (RP w wr r g xs p q w.heap.size b1 bp (zeroC.row (.slice none 0 0)).toArray ((ComL.mk (idOf y1.text) ps [] 0 []).row (.slice (some ⟨bp, 0, none⟩) n n)).toArray 90 (ps.map idRow)) := by
        have h := HP.out
        unfold halfI at h
        rw [rdIs_len, Nat.sub_self, List.replicate_zero, List.append_nil, hs.out] at h
        exact h
      clear HP CI
      have hone6 : ((ComL.mk (idOf y1.text) ps y3.text y4.n y5.text).row (.slice (some ⟨bp, 0, none⟩) n n)).toArray.all (·.oneCell') = true := com_one _ _ rfl
      have hs6 : (Tryz.prog.info? 90).map (·.size) = some ((ComL.mk (idOf y1.text) ps y3.text y4.n y5.text).row (.slice (some ⟨bp, 0, none⟩) n n)).toArray.size := by rw [com_len _ _ hl1]; kernel_rfl
      have hz6 : (zeroC.row (.slice none 0 0)).toArray.size = ((ComL.mk (idOf y1.text) ps y3.text y4.n y5.text).row (.slice (some ⟨bp, 0, none⟩) n n)).toArray.size := by rw [com_len (ComL.mk (idOf y1.text) ps y3.text y4.n y5.text) _ hl1]; rfl
      go_wp2_with (first
        | (go_at_call 74; (with_reducible refine (C3.out _ HPn.out.rv.rd).mono ?_); rintro e w6 ⟨rfl, hr6, hk6⟩
           have hv6 := HPn.out.step hr6 hk6
           have d6 := (com_cells (b := b1) (c := ComL.mk (idOf y1.text) ps [] 0 []) (pv := (.slice (some ⟨bp, 0, none⟩) n n)) hl1 hv6.rv.v1).2.2.1
           have f6 := frozen_of_row _ _ 33 _ _ hv6.rv.v1
           have HQ6 : Hid (RP w (w6.setCell ⟨b1, 33, none⟩ (.string (strOfNums y3.text))) r g xs y3.pl y3.f w.heap.size b1 bp (zeroC.row (.slice none 0 0)).toArray ((ComL.mk (idOf y1.text) ps y3.text 0 []).row (.slice (some ⟨bp, 0, none⟩) n n)).toArray 90 (ps.map idRow)) := by
             have h := hv6.set 33 (.string (strOfNums y3.text))
             rw [(com_set (ComL.mk (idOf y1.text) ps [] 0 []) (.slice (some ⟨bp, 0, none⟩) n n) hl1).2.1] at h
             exact h
           clear hr6 hk6 hv6)
        | (go_at_call 76; (with_reducible refine (C4.out _ HQ6.out.rv.rd).mono ?_); rintro e w7 ⟨rfl, hr7, hk7⟩
           have hv7 := HQ6.out.step hr7 hk7
           have d7 := (com_cells (b := b1) (c := ComL.mk (idOf y1.text) ps y3.text 0 []) (pv := (.slice (some ⟨bp, 0, none⟩) n n)) hl1 hv7.rv.v1).2.2.2.1
           have f7 := frozen_of_row _ _ 34 _ _ hv7.rv.v1
           have HQ7 : Hid (RP w (w7.setCell ⟨b1, 34, none⟩ (.int .u64 y4.n)) r g xs y4.pl y4.f w.heap.size b1 bp (zeroC.row (.slice none 0 0)).toArray ((ComL.mk (idOf y1.text) ps y3.text y4.n []).row (.slice (some ⟨bp, 0, none⟩) n n)).toArray 90 (ps.map idRow)) := by
             have h := hv7.set 34 (.int .u64 y4.n)
             rw [(com_set (ComL.mk (idOf y1.text) ps y3.text 0 []) (.slice (some ⟨bp, 0, none⟩) n n) hl1).2.2.1] at h
             exact h
           clear hr7 hk7 hv7)
        | (go_at_call 74; (with_reducible refine (C5.out _ HQ7.out.rv.rd).mono ?_); rintro e w8 ⟨rfl, hr8, hk8⟩
           have hv8 := HQ7.out.step hr8 hk8
           have d8 := (com_cells (b := b1) (c := ComL.mk (idOf y1.text) ps y3.text y4.n []) (pv := (.slice (some ⟨bp, 0, none⟩) n n)) hl1 hv8.rv.v1).2.2.2.2
           have f8 := frozen_of_row _ _ 35 _ _ hv8.rv.v1
           have HQ8 : Hid (RP w (w8.setCell ⟨b1, 35, none⟩ (.string (strOfNums y5.text))) r g xs y5.pl y5.f w.heap.size b1 bp (zeroC.row (.slice none 0 0)).toArray ((ComL.mk (idOf y1.text) ps y3.text y4.n y5.text).row (.slice (some ⟨bp, 0, none⟩) n n)).toArray 90 (ps.map idRow)) := by
             have h := hv8.set 35 (.string (strOfNums y5.text))
             rw [(com_set (ComL.mk (idOf y1.text) ps y3.text y4.n []) (.slice (some ⟨bp, 0, none⟩) n n) hl1).2.2.2] at h
             exact h
           clear hr8 hk8 hv8)
        | (refine wpList_load_row (by rfl) 90 (.tmp 3) (by rfl) b1 (by rfl) 90 ((ComL.mk (idOf y1.text) ps y3.text y4.n y5.text).row (.slice (some ⟨bp, 0, none⟩) n n)).toArray (0, 0) _ HQ8.out.rv.v1 Tryz.underlying90 rfl hs6 ?_)
        | (refine wpList_store_row (by rfl) 90 (.tmp 2) (.tmp 34) (by rfl) w.heap.size ((ComL.mk (idOf y1.text) ps y3.text y4.n y5.text).row (.slice (some ⟨bp, 0, none⟩) n n)).toArray (by rfl) (by rfl) 90 _ HQ8.out.rv.v0 hs6 hz6 hone6 ?_))
      have hbl := HQ8.out.a2
      have hbl2 := HQ8.out.rv.a1
      refine bodyPost_ret (v := .agg ((ComL.mk (idOf y1.text) ps y3.text y4.n y5.text).row (.slice (some ⟨bp, 0, none⟩) n n)).toArray) ?_ rfl ⟨bp, rfl, ?_, by omega, ?_, ?_⟩
      · rw [results_cell1 rfl]
        have hld := run_loadVar_row (P := Tryz.prog) ((w8.setCell ⟨b1, 35, none⟩ (.string (strOfNums y5.text))).setRow w.heap.size ((ComL.mk (idOf y1.text) ps y3.text y4.n y5.text).row (.slice (some ⟨bp, 0, none⟩) n n)).toArray) w.heap.size 90 90 ((ComL.mk (idOf y1.text) ps y3.text y4.n y5.text).row (.slice (some ⟨bp, 0, none⟩) n n)).toArray (0, 0) _ (setRow_heap _ _ _ _ _ _ HQ8.out.rv.v0) Tryz.underlying90 rfl hs6
        exact hld
      · exact (setRow_other _ _ _ _ (by omega)).trans HQ8.out.ids
      · exact HQ8.out.rv.rd.below (below_setRow (Below.refl w.heap.size _) (Nat.le_refl _) _) hrl hgl
      · exact kept_below HQ8.out.rv.keep (below_setRow (Below.refl w.heap.size _) (Nat.le_refl _) _) (Nat.le_refl _)
end Go.Proofs.YtfcoeinhfdbcgaaGreatDoor

namespace Go.Proofs.YtfcoeinhfdbcgaaGreatDoor
open Go.RowKit

structure ObjL where
  kind : Int
  bv : Value
  blob : List Int
  ev : Value
  es : List EntL
  com : ComL
  pv : Value
  tag : TagL
def ObjL.row (o : ObjL) : List Value := [.int .i64 o.kind, o.bv, o.ev] ++ (o.com.row o.pv ++ o.tag.row)
structure ObjL.Good (w : World) (o : ObjL) : Prop where
  lo : -9223372036854775808 ≤ o.kind
  hi : o.kind ≤ 9223372036854775807
  bv : BytesAt w o.bv o.blob
  blob : GoodText o.blob
  ev : EntsAt w o.ev o.es
  es : ∀ e, e ∈ o.es → e.Good
  pv : IdsAt w o.pv o.com.parents
  com : o.com.Good
  tag : o.tag.Good
theorem com_len' (c : ComL) (pv : Value) (hl : c.tree.length = 32) : (c.row pv).length = 36 := by simp [ComL.row, hl]
theorem obj_cells {w : World} {b : Nat} {o : ObjL} {ty : TypeId} {fr : Nat × Nat} (hl : o.com.tree.length = 32) (h : w.heap[b]? = some (.cells o.row.toArray ty fr)) :
    w.cell? ⟨b, 0, none⟩ = some (.int .i64 o.kind) ∧ w.cell? ⟨b, 1, none⟩ = some o.bv ∧ w.cell? ⟨b, 2, none⟩ = some o.ev ∧ w.rangeAt b 3 (o.com.row o.pv) ∧ w.rangeAt b 39 o.tag.row := by
  have hr := row_range h
  have key : ∀ j v, o.row[j]? = some v → w.cell? ⟨b, j, none⟩ = some v := fun j v hj => by
    have := hr j v hj
    rwa [Nat.zero_add] at this
  have hc := com_len' o.com o.pv hl
  refine ⟨key 0 _ rfl, key 1 _ rfl, key 2 _ rfl, fun j v hj => key _ v ?_, fun j v hj => key _ v ?_⟩
  · have hjl := (List.getElem?_eq_some_iff.1 hj).1
    unfold ObjL.row
    rw [List.getElem?_append_right (by show 3 ≤ 3 + j; omega), show (3 + j - [Value.int .i64 o.kind, o.bv, o.ev].length) = j by show 3 + j - 3 = j; omega, List.getElem?_append_left hjl]
    exact hj
  · unfold ObjL.row
    rw [List.getElem?_append_right (by show 3 ≤ 39 + j; omega), show (39 + j - [Value.int .i64 o.kind, o.bv, o.ev].length) = 36 + j by show 39 + j - 3 = 36 + j; omega, List.getElem?_append_right (by omega), hc, Nat.add_sub_cancel_left]
    exact hj
/-- What an object of its kind holds, as an interface's value. -/
def conV (o : ObjL) : Value := if o.kind = 1 then .iface 88 o.bv else if o.kind = 2 then .iface 89 o.ev else if o.kind = 3 then .iface 90 (.agg (o.com.row o.pv).toArray) else if o.kind = 4 then .iface 91 (.agg o.tag.row.toArray) else .nilIface

set_option maxRecDepth 100000 in
set_option maxHeartbeats 2000000 in
theorem contentOf_any (o : ObjL) (w : World) (hlo : -9223372036854775808 ≤ o.kind) (hhi : o.kind ≤ 9223372036854775807) (hc : o.com.tree.length = 32) (ht : o.tag.target.length = 32) :
    Calls Tryz.prog 25 #[.agg o.row.toArray] w fun e w' => e = .returned (.tuple #[conV o, .int .i64 (if modeB o.kind = true then 0 else 30)]) ∧ Kept [] w w' := by
  obtain ⟨c0, c1, c2, c3, c4⟩ := obj_cells (b := w.heap.size) hc (heap_alloc_new w (.cells o.row.toArray 37))
  have HK : Hid (Kept [] w (w.alloc (.cells o.row.toArray 37))) := (Kept.refl _ _).alloc _
  have hsc : (Tryz.prog.info? 33).map (·.size) = some (o.com.row o.pv).length := by rw [com_len' _ _ hc]; kernel_rfl
  have hst : (Tryz.prog.info? 35).map (·.size) = some o.tag.row.length := by rw [show o.tag.row.length = 37 by simp [TagL.row, ht]]; kernel_rfl
  obtain ⟨cv, hcv⟩ : ∃ cv, cv = conV o := ⟨_, rfl⟩
  obtain ⟨rv, hrv⟩ : ∃ rv : Int, rv = if modeB o.kind = true then 0 else 30 := ⟨_, rfl⟩
  rw [← hcv, ← hrv]
  unfold conV at hcv
  generalize o.row.toArray = orr at *
  generalize o.com.row o.pv = cr at *
  generalize o.tag.row = tr at *
  generalize o.bv = bv at *
  generalize o.ev = ev at *
  generalize o.kind = kd at *
  by_cases k1 : kd = 1
  · subst k1
    have HC : Hid (cv = .iface 88 bv) := hcv
    have HR : Hid (rv = 0) := hrv
    clear hcv hrv
    go_enter Tryz.func25, Tryz.ntmps25
    go_wp2
    exact bodyPost_ret (v := .tuple #[.iface 88 bv, .int .i64 0]) (by simp [results, Tryz.results25, go_sem]) rfl ⟨by rw [HC.out, HR.out], HK.out⟩
  · by_cases k2 : kd = 2
    · subst k2
      have HC : Hid (cv = .iface 89 ev) := hcv
      have HR : Hid (rv = 0) := hrv
      clear hcv hrv
      go_enter Tryz.func25, Tryz.ntmps25
      go_wp2
      exact bodyPost_ret (v := .tuple #[.iface 89 ev, .int .i64 0]) (by simp [results, Tryz.results25, go_sem]) rfl ⟨by rw [HC.out, HR.out], HK.out⟩
    · by_cases k3 : kd = 3
      · subst k3
        have HC : Hid (cv = .iface 90 (.agg cr.toArray)) := hcv
        have HR : Hid (rv = 0) := hrv
        clear hcv hrv
        go_enter Tryz.func25, Tryz.ntmps25
        go_wp2_with (refine wpList_load_mid (by rfl) 33 (.tmp 18) (by rfl) w.heap.size 3 (by rfl) cr _ c3 Tryz.underlying33 rfl hsc ?_)
        exact bodyPost_ret (v := .tuple #[.iface 90 (.agg cr.toArray), .int .i64 0]) (by simp [results, Tryz.results25, go_sem]) rfl ⟨by rw [HC.out, HR.out], HK.out⟩
      · by_cases k4 : kd = 4
        · subst k4
          have HC : Hid (cv = .iface 91 (.agg tr.toArray)) := hcv
          have HR : Hid (rv = 0) := hrv
          clear hcv hrv
          go_enter Tryz.func25, Tryz.ntmps25
          go_wp2_with (refine wpList_load_mid (by rfl) 35 (.tmp 23) (by rfl) w.heap.size 39 (by rfl) tr _ c4 Tryz.underlying35 rfl hst ?_)
          exact bodyPost_ret (v := .tuple #[.iface 91 (.agg tr.toArray), .int .i64 0]) (by simp [results, Tryz.results25, go_sem]) rfl ⟨by rw [HC.out, HR.out], HK.out⟩
        · have HC : Hid (cv = .nilIface) := by rw [hcv, if_neg k1, if_neg k2, if_neg k3, if_neg k4]; exact rfl
          have HR : Hid (rv = 30) := by
            rw [hrv, if_neg]
            · exact rfl
            · unfold modeB
              simp
              omega
          have b1 : (kd == 1) = false := beq_eq_false_iff_ne.2 k1
          have b2 : (kd == 2) = false := beq_eq_false_iff_ne.2 k2
          have b3 : (kd == 3) = false := beq_eq_false_iff_ne.2 k3
          have b4 : (kd == 4) = false := beq_eq_false_iff_ne.2 k4
          clear hcv hrv
          go_enter Tryz.func25, Tryz.ntmps25
          go_wp2
          exact bodyPost_ret (v := .tuple #[.nilIface, .int .i64 30]) (by simp [results, Tryz.results25, go_sem]) rfl ⟨by rw [HC.out, HR.out], HK.out⟩
end Go.Proofs.YtfcoeinhfdbcgaaGreatDoor

namespace Go.Proofs.YtfcoeinhfdbcgaaGreatDoor
open Go.RowKit

theorem fixedB1 (n : Int) (h0 : 0 ≤ n) (h1 : n ≤ 255) : fixedB n 1 = [n] := by
  simp [fixedB]
  omega
/-- lay between its steps: the object's box, and the list so far. -/
structure LSt (w wr : World) (row : Array Value) (u : Value) (zs : List Int) : Prop where
  box : wr.heap[w.heap.size]? = some (.cells row 37 (0, 0))
  own : OwnB wr (w.heap.size + 1) u zs
  kept : Kept [] w wr
section
variable {w wr w' : World} {row : Array Value} {u u' : Value} {zs us : List Int}
theorem LSt.big (L : LSt w wr row u zs) : w.heap.size + 1 ≤ wr.heap.size := lt_of_block L.box
theorem LSt.on (L : LSt w wr row u zs) (k : Kept [] wr w') : LSt w w' row u zs := ⟨k.heap L.box (by simp), L.own.kept k (by simp), L.kept.then k⟩
theorem LSt.low (L : LSt w wr row u zs) : ∀ x, u.ownBlock = some x → w.heap.size + 1 ≤ x := fun x hx => (World.ownsRow.lt L.own x hx).1
theorem LSt.app (L : LSt w wr row u zs) (h : Appended wr w' (w.heap.size + 1) u u' us) : LSt w w' row u' us := by
  have k : Kept u.ownBlock.toList wr w' := h.keep wr _ (Kept.refl _ _) fun x hx => Or.inl (by simp [hx])
  refine ⟨k.heap L.box fun e => ?_, h.own, h.keep w [] L.kept fun x hx => Or.inr ?_⟩
  · have := L.low _ (by simpa using e)
    omega
  · have := L.low x hx
    omega
theorem LSt.laid (L : LSt w wr row u zs) (h : Laid wr w' (w.heap.size + 1) u u' us) : LSt w w' row u' us := by
  have k : Kept u.ownBlock.toList wr w' := h.keep wr _ (Kept.refl _ _) fun x hx => Or.inl (by simp [hx])
  refine ⟨k.heap L.box fun e => ?_, h.own, h.keep w [] L.kept fun x hx => Or.inr ?_⟩
  · have := L.low _ (by simpa using e)
    omega
  · have := L.low x hx
    omega
end
theorem otag_cells {w : World} {b : Nat} {o : ObjL} {ty : TypeId} {fr : Nat × Nat} (hl : o.com.tree.length = 32) (ht : o.tag.target.length = 32) (h : w.heap[b]? = some (.cells o.row.toArray ty fr)) :
    w.cell? ⟨b, 0, none⟩ = some (.int .i64 o.kind) ∧ w.rangeAt b 39 (o.tag.target.map (Value.int .u8)) ∧ w.cell? ⟨b, 71, none⟩ = some (.int .i64 o.tag.kind) ∧ w.cell? ⟨b, 72, none⟩ = some (.string (strOfNums o.tag.name)) ∧ w.cell? ⟨b, 73, none⟩ = some (.string (strOfNums o.tag.who)) ∧
      w.cell? ⟨b, 74, none⟩ = some (.int .u64 o.tag.time) ∧ w.cell? ⟨b, 75, none⟩ = some (.string (strOfNums o.tag.text)) := by
  obtain ⟨c0, _, _, _, hr⟩ := obj_cells hl h
  have hlm : (o.tag.target.map (Value.int .u8)).length = 32 := by rw [List.length_map, ht]
  have key : ∀ j v, [Value.int .i64 o.tag.kind, .string (strOfNums o.tag.name), .string (strOfNums o.tag.who), .int .u64 o.tag.time, .string (strOfNums o.tag.text)][j]? = some v → w.cell? ⟨b, 39 + (32 + j), none⟩ = some v := fun j v hj => hr (32 + j) v (by
    unfold TagL.row
    rw [List.getElem?_append_right (by omega), hlm, Nat.add_sub_cancel_left]
    exact hj)
  refine ⟨c0, fun j v hj => hr j v ?_, key 0 _ rfl, key 1 _ rfl, key 2 _ rfl, key 3 _ rfl, key 4 _ rfl⟩
  unfold TagL.row
  rw [List.getElem?_append_left (List.getElem?_eq_some_iff.1 hj).1]
  exact hj

set_option maxRecDepth 100000 in
set_option maxHeartbeats 4000000 in
theorem R3layTag_any (o : ObjL) (w : World) (h4 : o.kind = 4) (hc : o.com.tree.length = 32) (hg : o.tag.Good) (hk0 : 0 ≤ o.tag.kind) (hk1 : o.tag.kind ≤ 255) (hz : o.tag.name.length + o.tag.who.length + o.tag.text.length ≤ 100000000) :
    Calls Tryz.prog 35 #[.agg o.row.toArray] w fun e w' => ∃ v, e = .returned v ∧ OwnB w' w.heap.size v (encG o.tag) ∧ Kept [] w w' := by
  have HTC : Hid (∀ W : World, W.heap[w.heap.size]? = some (.cells o.row.toArray 37 (0, 0)) → W.cell? ⟨w.heap.size, 0, none⟩ = some (.int .i64 4) ∧ W.rangeAt w.heap.size 39 (o.tag.target.map (Value.int .u8)) ∧ W.cell? ⟨w.heap.size, 71, none⟩ = some (.int .i64 o.tag.kind) ∧ W.cell? ⟨w.heap.size, 72, none⟩ = some (.string (strOfNums o.tag.name)) ∧ W.cell? ⟨w.heap.size, 73, none⟩ = some (.string (strOfNums o.tag.who)) ∧
      W.cell? ⟨w.heap.size, 74, none⟩ = some (.int .u64 o.tag.time) ∧ W.cell? ⟨w.heap.size, 75, none⟩ = some (.string (strOfNums o.tag.text))) := fun W hW => by rw [← h4]; exact otag_cells hc hg.target.1 hW
  have HE : Hid (encG o.tag = [4] ++ o.tag.target ++ [o.tag.kind] ++ (varB o.tag.name.length ++ o.tag.name) ++ (varB o.tag.who.length ++ o.tag.who) ++ fixedB o.tag.time 8 ++ (varB o.tag.text.length ++ o.tag.text)) := by
    show _ = _
    unfold encG
    rw [fixedB1 4 (by decide) (by decide), fixedB1 _ hk0 hk1]
    simp only [List.append_assoc]
  have HB0 : Hid ((w.alloc (.cells o.row.toArray 37)).heap[w.heap.size]? = some (.cells o.row.toArray 37 (0, 0))) := heap_alloc_new w _
  generalize o.row.toArray = row at *
  generalize o.tag = t at *
  obtain ⟨tg, kd, nm, wh, tm, tx⟩ := t
  obtain ⟨g1, _, _, g4, g5, g6, g7, g8⟩ := hg
  dsimp only at *
  have hun := Tryz.underlying29
  have hso : (Tryz.prog.info? 29).map (·.size) = some (tg.map (Value.int .u8)).length := by rw [List.length_map, g1.1]; exact Tryz.infoID
  have l1 := g1.1
  have v1 := varB_len (nm.length : Int) (by omega) (by omega)
  have v2 := varB_len (wh.length : Int) (by omega) (by omega)
  have v3 := varB_len (tx.length : Int) (by omega) (by omega)
  have v4 := fixedB_len tm 8
  have r8 : IntKind.u8.wrap kd = kd := by rw [IntKind.wrap_u8']; omega
  have hnm := fun W => R3text_any nm g4.1 (by omega) W
  have hwh := fun W => R3text_any wh g5.1 (by omega) W
  have htx := fun W => R3text_any tx g8.1 (by omega) W
  have htm := fun W => R3big_any tm W g6 g7
  have HG1 : Hid (GoodID tg) := g1
  generalize strOfNums nm = snm at *
  generalize strOfNums wh = swh at *
  generalize strOfNums tx = stx at *
  clear h4 hc g1 g4 g5 g6 g7 g8
  have HL0 : Hid (LSt w ((w.alloc (.cells row 37)).alloc (.cells #[.int .u8 4] 5)) row (.slice (some ⟨w.heap.size + 1, 0, none⟩) 1 1) [4]) := by
    have h := OwnB.one (w := w.alloc (.cells row 37)) 4
    rw [World.size_alloc] at h
    exact ⟨((Kept.refl [] _).alloc _).heap HB0.out (by simp), h, ((Kept.refl [] w).alloc _).alloc _⟩
  obtain ⟨y0, y1, y2, y3, y4, y5, y6⟩ := HTC.out _ HB0.out
  obtain ⟨x0, x1, x2, x3, x4, x5, x6⟩ := HTC.out _ HL0.out.box
  have z0 := HL0.out.big
  go_enter Tryz.func35, Tryz.ntmps35
  go_wp2_with (refine wpList_load_mid (by rfl) 29 (.tmp 112) (by rfl) w.heap.size 39 (by rfl) (tg.map (Value.int .u8)) _ x1 hun rfl hso ?_)
  go_at_call 58
  refine (R3raw_any HL0.out.own z0 tg HG1.out (by simp)).mono ?_
  rintro e w1 ⟨u1, rfl, h1⟩
  have HL1 : Hid (LSt w w1 row u1 ([4] ++ tg)) := HL0.out.laid h1
  clear h1 HL0 x0 x1 x2 x3 x4 x5 x6 z0 y0 y1 y2 y3 y4 y5 y6
  obtain ⟨x0, x1, x2, x3, x4, x5, x6⟩ := HTC.out _ HL1.out.box
  have z1 := HL1.out.big
  have HL2 : Hid (LSt w (w1.alloc (.cells #[.int .u8 kd] 5)) row u1 ([4] ++ tg)) := HL1.out.on ((Kept.refl _ _).alloc _)
  go_wp2_with (at_builtin; refine wpList_append_bytes rfl (.tmp 115) (.tmp 120) rfl rfl HL2.out.own rfl (one_byte w1 kd) (by simp; omega) HL2.out.big ?_; intro u3 w3 ha
               have HL3 : Hid (LSt w w3 row u3 ([4] ++ tg ++ [kd])) := HL2.out.app ha
               obtain ⟨x0, x1, x2, x3, x4, x5, x6⟩ := HTC.out _ HL3.out.box
               have z3 := HL3.out.big
               clear ha)
  go_at_call 57
  refine (hnm _).mono ?_
  rintro e w4 ⟨v4, rfl, o4, k4⟩
  have HL4 : Hid (LSt w w4 row u3 ([4] ++ tg ++ [kd])) := HL3.out.on k4
  have HO4 : Hid (BytesAt w4 v4 ((varB nm.length ++ nm))) := o4.bytes
  clear o4 k4 x0 x1 x2 x3 x4 x5 x6 HL3 z3
  obtain ⟨x0, x1, x2, x3, x4, x5, x6⟩ := HTC.out _ HL4.out.box
  have z4 := HL4.out.big
  go_wp2_with (at_builtin; refine wpList_append_bytes rfl (.tmp 122) (.tmp 126) rfl rfl HL4.out.own rfl HO4.out (by simp; omega) z4 ?_; intro u5 w5 ha
               have HL5 : Hid (LSt w w5 row u5 ([4] ++ tg ++ [kd] ++ (varB nm.length ++ nm))) := HL4.out.app ha
               obtain ⟨x0, x1, x2, x3, x4, x5, x6⟩ := HTC.out _ HL5.out.box
               have z5 := HL5.out.big
               clear ha)
  go_at_call 57
  refine (hwh _).mono ?_
  rintro e w6 ⟨v6, rfl, o6, k6⟩
  have HL6 : Hid (LSt w w6 row u5 ([4] ++ tg ++ [kd] ++ (varB nm.length ++ nm))) := HL5.out.on k6
  have HO6 : Hid (BytesAt w6 v6 ((varB wh.length ++ wh))) := o6.bytes
  clear o6 k6 x0 x1 x2 x3 x4 x5 x6 HL5 z5
  obtain ⟨x0, x1, x2, x3, x4, x5, x6⟩ := HTC.out _ HL6.out.box
  have z6 := HL6.out.big
  go_wp2_with (at_builtin; refine wpList_append_bytes rfl (.tmp 128) (.tmp 132) rfl rfl HL6.out.own rfl HO6.out (by simp; omega) z6 ?_; intro u7 w7 ha
               have HL7 : Hid (LSt w w7 row u7 ([4] ++ tg ++ [kd] ++ (varB nm.length ++ nm) ++ (varB wh.length ++ wh))) := HL6.out.app ha
               obtain ⟨x0, x1, x2, x3, x4, x5, x6⟩ := HTC.out _ HL7.out.box
               have z7 := HL7.out.big
               clear ha)
  go_at_call 59
  refine (htm _).mono ?_
  rintro e w8 ⟨v8, rfl, o8, k8⟩
  have HL8 : Hid (LSt w w8 row u7 ([4] ++ tg ++ [kd] ++ (varB nm.length ++ nm) ++ (varB wh.length ++ wh))) := HL7.out.on k8
  have HO8 : Hid (BytesAt w8 v8 (fixedB tm 8)) := o8.bytes
  clear o8 k8 x0 x1 x2 x3 x4 x5 x6 HL7 z7
  obtain ⟨x0, x1, x2, x3, x4, x5, x6⟩ := HTC.out _ HL8.out.box
  have z8 := HL8.out.big
  go_wp2_with (at_builtin; refine wpList_append_bytes rfl (.tmp 134) (.tmp 138) rfl rfl HL8.out.own rfl HO8.out (by simp; omega) z8 ?_; intro u9 w9 ha
               have HL9 : Hid (LSt w w9 row u9 ([4] ++ tg ++ [kd] ++ (varB nm.length ++ nm) ++ (varB wh.length ++ wh) ++ fixedB tm 8)) := HL8.out.app ha
               obtain ⟨x0, x1, x2, x3, x4, x5, x6⟩ := HTC.out _ HL9.out.box
               have z9 := HL9.out.big
               clear ha)
  go_at_call 57
  refine (htx _).mono ?_
  rintro e w10 ⟨v10, rfl, o10, k10⟩
  have HL10 : Hid (LSt w w10 row u9 ([4] ++ tg ++ [kd] ++ (varB nm.length ++ nm) ++ (varB wh.length ++ wh) ++ fixedB tm 8)) := HL9.out.on k10
  have HO10 : Hid (BytesAt w10 v10 ((varB tx.length ++ tx))) := o10.bytes
  clear o10 k10 x0 x1 x2 x3 x4 x5 x6 HL9 z9
  obtain ⟨x0, x1, x2, x3, x4, x5, x6⟩ := HTC.out _ HL10.out.box
  have z10 := HL10.out.big
  go_wp2_with (at_builtin; refine wpList_append_bytes rfl (.tmp 140) (.tmp 144) rfl rfl HL10.out.own rfl HO10.out (by simp; omega) z10 ?_; intro u11 w11 ha
               have HL11 : Hid (LSt w w11 row u11 ([4] ++ tg ++ [kd] ++ (varB nm.length ++ nm) ++ (varB wh.length ++ wh) ++ fixedB tm 8 ++ (varB tx.length ++ tx))) := HL10.out.app ha
               obtain ⟨x0, x1, x2, x3, x4, x5, x6⟩ := HTC.out _ HL11.out.box
               have z11 := HL11.out.big
               clear ha)
  go_ret
  refine ⟨_, rfl, ?_, HL11.out.kept⟩
  rw [HE.out]
  exact HL11.out.own.mono (by omega)
end Go.Proofs.YtfcoeinhfdbcgaaGreatDoor
