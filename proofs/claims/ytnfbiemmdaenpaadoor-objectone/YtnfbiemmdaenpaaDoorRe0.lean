/-
  WALKS: what satchelref3 lays: number, text, big, raw.
-/
import Derived.Test.YtnfbiemmdaenpaaDoorObj0
import Derived.Test.YtnfbiemmdaenpaaDoorPlainV
import Derived.Deep.OwnRows
namespace Go.Proofs.YtnfbiemmdaenpaaDoor
open Go.RowKit

theorem one_byte (w : World) (x : Int) : BytesAt (w.alloc (.cells #[.int .u8 x] 5)) (.slice (some ⟨w.heap.size, 0, none⟩) 1 1) [x] := (OwnB.one x).bytes

set_option maxHeartbeats 2000000 in
/-- satchelref3.number: the shortest form, in new memory. -/
theorem R3number_any (n : Int) (w : World) (h0 : 0 ≤ n) (h1 : n ≤ 9223372036854775807) :
    Calls Tryd.prog 37 #[.int .i64 n] w fun e w' => ∃ v, e = .returned v ∧ OwnB w' w.heap.size v (varB n) ∧ Kept [] w w' := by
  have hlen := varB_len n h0 (by omega)
  go_enter Tryd.func37, Tryd.ntmps37
  go_wp2
  go_loopw [0, 3] (fun s0 s3 wr => ∃ (m : Int) (l : List Int) (u : Value), u = s3 ∧ s0 = .int .i64 m ∧ 0 ≤ m ∧ m ≤ 9223372036854775807 ∧ Hid (varB n = l ++ varB m) ∧ Hid (OwnB wr w.heap.size u l) ∧ Hid (Kept [] w wr)) (fun s0 _ _ => (intOf s0).toNat)
  case atStart => exact ⟨n, [], _, rfl, rfl, h0, h1, rfl, World.ownsRow_nil _ _ _ _, Kept.refl _ _⟩
  case round =>
    obtain ⟨m, l, u, rfl, rfl, hm0, hm1, HV, HO, HK⟩ := hrel
    have hl : l.length ≤ 10 := by
      have := congrArg List.length HV.out
      rw [List.length_append] at this
      omega
    have HB : Hid (∀ x, u.ownBlock = some x → w.heap.size ≤ x) := fun x hx => (World.ownsRow.lt HO.out x hx).1
    have hsz : w.heap.size ≤ wr.heap.size := HK.out.size
    by_cases hs : m < 128
    · have t1 : decide ((128 : Int) ≤ m) = false := by simp; omega
      have r1 : IntKind.u8.wrap m = m := by rw [IntKind.wrap_u8']; omega
      have HO1 : Hid (OwnB (wr.alloc (.cells #[.int .u8 m] 5)) w.heap.size u l) := OwnB.kept HO.out ((Kept.refl [] wr).alloc _) (by simp)
      have HK1 : Hid (Kept [] w (wr.alloc (.cells #[.int .u8 m] 5))) := HK.out.alloc _
      go_wp2_with (at_builtin; refine wpList_append_bytes rfl (.tmp 15) (.tmp 18) rfl rfl HO1.out rfl (one_byte wr m) (by simp; omega) (by simp; omega) ?_; intro v2 w2 ha2
                   have HO2 : Hid (OwnB w2 w.heap.size v2 (l ++ [m])) := ha2.own
                   have HK2 : Hid (Kept [] w w2) := ha2.keep w [] HK1.out (fun k hk => Or.inr (HB.out k hk))
                   clear ha2)
      go_ret
      refine ⟨_, rfl, ?_, HK2.out⟩
      rw [HV.out, varB_small m hm0 hs]
      exact HO2.out
    · have t1 : decide ((128 : Int) ≤ m) = true := by simp; omega
      have r1 : Int.tmod m 128 = m % 128 := Int.tmod_eq_emod_of_nonneg hm0
      have r2 : IntKind.u8.wrap (128 + m % 128) = 128 + m % 128 := by rw [IntKind.wrap_u8']; omega
      have r3 : Int.tdiv m 128 = m / 128 := Int.tdiv_eq_ediv_of_nonneg hm0
      have r4 : IntKind.i64.wrap (128 + m % 128) = 128 + m % 128 := by rw [IntKind.wrap_i64]; omega
      have HO1 : Hid (OwnB (wr.alloc (.cells #[.int .u8 (128 + m % 128)] 5)) w.heap.size u l) := OwnB.kept HO.out ((Kept.refl [] wr).alloc _) (by simp)
      have HK1 : Hid (Kept [] w (wr.alloc (.cells #[.int .u8 (128 + m % 128)] 5))) := HK.out.alloc _
      go_wp2_with (at_builtin; refine wpList_append_bytes rfl (.tmp 6) (.tmp 11) rfl rfl HO1.out rfl (one_byte wr (128 + m % 128)) (by simp; omega) (by simp; omega) ?_; intro v2 w2 ha2
                   have HO2 : Hid (OwnB w2 w.heap.size v2 (l ++ [128 + m % 128])) := ha2.own
                   have HK2 : Hid (Kept [] w w2) := ha2.keep w [] HK1.out (fun k hk => Or.inr (HB.out k hk))
                   clear ha2)
      go_roundw
      case rel => exact ⟨m / 128, l ++ [128 + m % 128], _, rfl, by go_num, by omega, by omega, by show _ = _; rw [HV.out, varB_big m (by omega) (by omega)]; simp, HO2, HK2⟩
      case measure => simp [intOf]; omega

set_option maxHeartbeats 2000000 in
/-- satchelref3.text: a text with its length ahead, in new memory. -/
theorem R3text_any (xs : List Int) (ho : Octs xs) (hs : xs.length ≤ 140737488355000) (w : World) :
    Calls Tryd.prog 38 #[.string (strOfNums xs)] w fun e w' => ∃ v, e = .returned v ∧ OwnB w' w.heap.size v (varB xs.length ++ xs) ∧ Kept [] w w' := by
  have hsz := strOfNums_size xs
  have hnum := R3number_any (xs.length : Int) w (by omega) (by omega)
  have hvl := varB_len (xs.length : Int) (by omega) (by omega)
  go_enter Tryd.func38, Tryd.ntmps38
  go_wp2_with fail
  go_at_call 37
  refine hnum.mono ?_
  rintro e w1 ⟨v1, rfl, ho1, k1⟩
  obtain ⟨cap, w2, hrun, hb2, k2⟩ := conv_text w1 xs ho
  have HO2 : Hid (OwnB w2 w.heap.size v1 (varB xs.length)) := OwnB.kept ho1 k2 (by simp)
  have HK2 : Hid (Kept [] w w2) := k1.then k2
  have HB2 : Hid _ := hb2
  have HB : Hid (∀ x, v1.ownBlock = some x → w.heap.size ≤ x) := fun x hx => (World.ownsRow.lt ho1 x hx).1
  have hsz2 : w.heap.size ≤ w2.heap.size := HK2.out.size
  clear hnum ho1 k1 hb2 k2
  go_wp2_with (at_builtin; refine wpList_append_bytes rfl (.tmp 7) (.tmp 9) rfl rfl HO2.out rfl HB2.out (by omega) hsz2 ?_; intro v3 w3 ha3
               have HO3 : Hid (OwnB w3 w.heap.size v3 (varB xs.length ++ xs)) := ha3.own
               have HK3 : Hid (Kept [] w w3) := ha3.keep w [] HK2.out (fun k hk => Or.inr (HB.out k hk))
               clear ha3)
  go_ret
  exact ⟨_, rfl, HO3.out, HK3.out⟩

/-- What raw comes to: an id's bytes behind a list. -/
structure Laid (w w' : World) (B : Nat) (v v' : Value) (us : List Int) : Prop where
  own : OwnB w' B v' us
  keep : ∀ (a : World) (S : List Nat), Kept S a w → (∀ k, v.ownBlock = some k → k ∈ S ∨ a.heap.size ≤ k) → Kept S a w'
  at' : ∀ k, v'.ownBlock = some k → v.ownBlock = some k ∨ w.heap.size ≤ k

set_option maxRecDepth 100000 in
set_option maxHeartbeats 2000000 in
theorem R3raw_any {w : World} {B : Nat} {v : Value} {zs : List Int} (hown : OwnB w B v zs) (hB : B ≤ w.heap.size) (id : List Int) (hid : GoodID id) (hz : zs.length ≤ 140737488355000) :
    Calls Tryd.prog 39 #[v, .agg (idC id)] w fun e w' => ∃ v', e = .returned v' ∧ Laid w w' B v v' (zs ++ id) := by
  have HD : Hid (GoodID id) := hid
  have hl32 := hid.1
  have HB0 : Hid ((w.alloc (.cells (idC id) 25)).heap[w.heap.size]? = some (.cells (idC id) 25 (0, 0))) := heap_alloc_new w _
  have HO0 : Hid (OwnB (w.alloc (.cells (idC id) 25)) B v zs) := OwnB.kept hown ((Kept.refl [] w).alloc _) (by simp)
  have HBl : Hid (∀ x, v.ownBlock = some x → x < w.heap.size) := fun x hx => (World.ownsRow.lt hown x hx).2
  have hsz0 : (w.alloc (.cells (idC id) 25)).heap.size = w.heap.size + 1 := World.size_alloc _ _
  clear hown hid
  go_enter Tryd.func39, Tryd.ntmps39
  go_wp2
  go_loopw [0, 5] (fun s0 s5 wr => ∃ (k : Nat) (u : Value), u = s0 ∧ k ≤ 32 ∧ s5 = .int .i64 k ∧ Hid (Laid w wr B v u (zs ++ id.take k)) ∧ Hid (wr.heap[w.heap.size]? = some (.cells (idC id) 25 (0, 0)) ∧ u.ownBlock ≠ some w.heap.size)) (fun _ s5 _ => 32 - (intOf s5).toNat)
  case atStart =>
    refine ⟨0, _, rfl, by omega, rfl, ⟨by simpa using HO0.out, fun a S h hv => h.alloc _, fun k hk => Or.inl hk⟩, HB0.out, fun e => ?_⟩
    have := HBl.out _ e
    omega
  case round =>
    clear HB0 HO0
    obtain ⟨k, u, rfl, hk, rfl, HL, HR⟩ := hrel
    have hbig : w.heap.size < wr.heap.size := lt_of_block HR.out.1
    by_cases hlt : k < 32
    · have t1 : decide ((k : Int) < 32) = true := by simp; omega
      have c1 : wr.cell? ⟨w.heap.size, k, none⟩ = some (.int .u8 (id[k]?.getD 0)) := by
        rw [cell_of_row _ _ _ _ _ _ HR.out.1, idC_get (by omega)]
      have HE : Hid (zs ++ id.take (k + 1) = (zs ++ id.take k) ++ [id[k]?.getD 0]) := by
        show _ = _
        rw [List.take_succ_eq_append_getElem (by omega : k < id.length), List.append_assoc, List.getElem?_eq_getElem (by omega)]
        rfl
      have hln : (zs ++ id.take k).length ≤ zs.length + 32 := by simp; omega
      generalize id[k]?.getD 0 = b at *
      have HO1 : Hid (OwnB (wr.alloc (.cells #[.int .u8 b] 5)) B u (zs ++ id.take k)) := OwnB.kept HL.out.own ((Kept.refl [] wr).alloc _) (by simp)
      have HR1 : Hid ((wr.alloc (.cells #[.int .u8 b] 5)).heap[w.heap.size]? = some (.cells (idC id) 25 (0, 0))) := ((Kept.refl [] wr).alloc _).heap HR.out.1 (by simp)
      go_wp2_with (at_builtin; refine wpList_append_bytes rfl (.tmp 10) (.tmp 14) rfl rfl HO1.out rfl (one_byte wr b) (by simp at hln ⊢; omega) (by simp; omega) ?_; intro v2 w2 ha2
                   have HA2 : Hid (Appended (wr.alloc (.cells #[.int .u8 b] 5)) w2 B u v2 (zs ++ id.take k ++ [b])) := ha2
                   clear ha2)
      go_roundw
      case rel =>
        have hA := HA2.out
        have hLL := HL.out
        refine ⟨k + 1, _, rfl, by omega, by go_num, ⟨by rw [HE.out]; exact hA.own, fun a S h hv => hA.keep a S ((hLL.keep a S h hv).alloc _) (fun x hx => ?_), fun x hx => ?_⟩, ?_, fun e => ?_⟩
        · rcases hLL.at' x hx with h1 | h1
          · exact hv x h1
          · exact Or.inr (Nat.le_trans h.size h1)
        · rcases hA.at' with h1 | h1
          · rw [h1] at hx; exact hLL.at' x hx
          · rw [h1] at hx
            injection hx with hx
            rw [World.size_alloc] at hx
            exact Or.inr (by omega)
        · have hk2 : Kept u.ownBlock.toList (wr.alloc (.cells #[.int .u8 b] 5)) w2 := hA.keep _ _ (Kept.refl _ _) (fun x hx => Or.inl (by simp [hx]))
          exact hk2.heap HR1.out (by simpa using HR.out.2)
        · rcases hA.at' with h1 | h1
          · rw [h1] at e; exact HR.out.2 e
          · rw [h1] at e
            injection e with e
            rw [World.size_alloc] at e
            omega
      case measure => simp [intOf]; omega
    · have t1 : decide ((k : Int) < 32) = false := by simp; omega
      obtain rfl : k = 32 := by omega
      go_wp2
      go_ret
      refine ⟨_, rfl, ?_⟩
      have h := HL.out
      rw [List.take_of_length_le (by omega)] at h
      exact h
theorem fixedB_get (n : Int) (size k : Nat) (h : k < size) : (fixedB n size)[k]? = some (n / 256 ^ (size - 1 - k) % 256) := by
  simp [fixedB, h]

theorem fill_down (F : List Int) (size k : Nat) (x : Int) (hF : F.length = size) (h : k < size) (hx : F[k]? = some x) :
    (List.replicate (k + 1) 0 ++ F.drop (k + 1)).set k x = List.replicate k 0 ++ F.drop k := by
  rw [List.set_append_left _ _ (by simp), List.replicate_succ', List.set_append_right _ _ (by simp), List.length_replicate, Nat.sub_self, List.set_cons_zero, List.append_assoc]
  congr 1
  rw [List.drop_eq_getElem_cons (show k < F.length by omega)]
  rw [List.getElem?_eq_getElem (show k < F.length by omega)] at hx
  injection hx with hx
  rw [hx]
  rfl

set_option maxRecDepth 100000 in
set_option maxHeartbeats 1000000 in
theorem R3big_any (n : Int) (w : World) (h0 : 0 ≤ n) (h1 : n ≤ 18446744073709551615) :
    Calls Tryd.prog 40 #[.int .u64 n] w fun e w' => ∃ v, e = .returned v ∧ OwnB w' w.heap.size v (fixedB n 8) ∧ Kept [] w w' := by
  have hmk : ∀ W : World, (Instr.makeSlice 22 (.int .i64 8) (.int .i64 8)).run Tryd.prog W = .ok (.slice (some ⟨W.heap.size, 0, none⟩) 8 8) (W.alloc (.cells (madeCells #[.int .u8 0] 8) 5)) := fun W => run_make_row' (P := Tryd.prog) 22 5 (.int .u8 0) 1 Tryd.underlying22 Tryd.info_u8 rfl .i64 .i64 8 (by decide) (by decide) W
  have HF : Hid (∀ k, k < 8 → (fixedB n 8)[k]? = some (n / 256 ^ (8 - 1 - k) % 256)) := fun k hk => fixedB_get n 8 k hk
  have hlen := fixedB_len n 8
  have HN : Hid (∀ k : Nat, 0 ≤ n / 256 ^ k ∧ n / 256 ^ k ≤ 18446744073709551615 ∧ (n / 256 ^ k) / 256 = n / 256 ^ (k + 1)) := by
    intro k
    have hp : (0 : Int) < 256 ^ k := Int.pow_pos (by decide)
    refine ⟨Int.ediv_nonneg h0 (by omega), ?_, ?_⟩
    · exact Int.le_trans (Int.ediv_le_self _ h0) h1
    · rw [Int.ediv_ediv_of_nonneg (by omega), Int.pow_succ]
  generalize fixedB n 8 = F at *
  go_enter Tryd.func40, Tryd.ntmps40
  go_wp2
  go_loopw [0, 4] (fun s0 s6 wr => ∃ k : Nat, k ≤ 8 ∧ s6 = .int .i64 ((k : Int) - 1) ∧ s0 = .int .u64 (n / 256 ^ (8 - k)) ∧ Hid (wr.ownsRow w.heap.size 5 1 (.slice (some ⟨w.heap.size, 0, none⟩) 8 8) 8 ((List.replicate k 0 ++ F.drop k).map (Value.int .u8))) ∧ Kept [] w wr) (fun _ s6 _ => (intOf s6 + 1).toNat)
  case atStart =>
    refine ⟨8, Nat.le_refl _, by go_num, by rw [Nat.sub_self, Int.pow_zero, Int.ediv_one], ?_, (Kept.refl _ _).alloc _⟩
    have h := World.ownsRow_lit (base := w.heap.size) (e := 5) (size := 1) w (madeCells #[.int .u8 0] 8) 8 (Nat.le_refl _) (by unfold maxLen; omega) (by rw [size_madeCells]; try omega)
    rw [toList_madeCells_one] at h
    rw [List.drop_eq_nil_of_le (by omega), List.append_nil, List.map_replicate]
    exact h
  case round =>
    obtain ⟨k, hk, rfl, rfl, HO, hkw⟩ := hrel
    cases k with
    | zero =>
      have e0 : ((0 : Nat) : Int) - 1 = -1 := rfl
      rw [e0]
      go_wp2
      go_ret
      refine ⟨_, rfl, ?_, hkw⟩
      have h := HO.out
      rw [List.replicate_zero, List.nil_append, List.drop_zero] at h
      unfold OwnB
      rw [hlen]
      exact h
    | succ j =>
      have e0 : ((j + 1 : Nat) : Int) - 1 = (j : Int) := by omega
      rw [e0]
      have hn := HN.out (8 - (j + 1))
      have hF := HF.out j (by omega)
      rw [show 8 - 1 - j = 8 - (j + 1) by omega] at hF
      rw [show 8 - (j + 1) + 1 = 8 - j by omega] at hn
      have HQ : Hid _ := hn.2.2
      generalize n / 256 ^ (8 - (j + 1)) = m at *
      have hn0 := hn.1
      have hn1 := hn.2.1
      clear hn
      have r1 : Int.tmod m 256 = m % 256 := Int.tmod_eq_emod_of_nonneg hn0
      have r2 : IntKind.u8.wrap (m % 256) = m % 256 := by rw [IntKind.wrap_u8']; omega
      have r3 : Int.tdiv m 256 = m / 256 := Int.tdiv_eq_ediv_of_nonneg hn0
      have HS : Hid (World.ownsRow (wr.setCell ⟨w.heap.size, j, none⟩ (.int .u8 (m % 256))) w.heap.size 5 1 (.slice (some ⟨w.heap.size, 0, none⟩) 8 8) 8 ((List.replicate j 0 ++ F.drop j).map (Value.int .u8))) := by
        have h := (World.ownsRow.stored HO.out j (.int .u8 (m % 256))).1
        rw [← List.map_set, fill_down F 8 j _ hlen (by omega) hF] at h
        exact h
      have c1 : ∃ u, wr.cell? ⟨w.heap.size, j, none⟩ = some u := by
        rw [World.ownsRow.cellAt HO.out j (by omega)]
        exact ⟨_, List.getElem?_eq_getElem (by simp; omega)⟩
      obtain ⟨u1, c1⟩ := c1
      have f1 := World.ownsRow.frozenAt HO.out j
      clear HO
      go_wp2
      go_roundw
      case rel => exact ⟨j, by omega, by go_num, by rw [← HQ.out], HS, hkw.setCell (Or.inr (Nat.le_refl _)) _⟩
      case measure => simp [intOf]
end Go.Proofs.YtnfbiemmdaenpaaDoor
