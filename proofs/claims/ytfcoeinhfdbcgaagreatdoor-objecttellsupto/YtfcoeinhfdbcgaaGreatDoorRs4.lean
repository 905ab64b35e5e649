/-
  WALK: satchelref2.Padded.
-/
import Derived.Test.YtfcoeinhfdbcgaaGreatDoorRs3
import Derived.Test.YtfcoeinhfdbcgaaGreatDoorRowP
import Derived.Test.YtfcoeinhfdbcgaaGreatDoorSha5
namespace Go.Proofs.YtfcoeinhfdbcgaaGreatDoor
open Go.RowKit

theorem lastL_take (told : Int) (k : Nat) (h : k < 8) : (lastL told).take (k + 1) = (lastL told).take k ++ [told / 2 ^ (56 - 8 * k) % 256] := by
  have hl : (lastL told).length = 8 := by simp [lastL]
  rw [List.take_succ_eq_append_getElem (by omega)]
  congr 2
  simp [lastL]
theorem lastL_full (told : Int) : (lastL told).take 8 = lastL told := List.take_of_length_le (by simp [lastL])
def toldK (told : Int) : Nat → Int
  | 0 => told
  | k + 1 => IntKind.u64.wrap (toldK told k * 256)
theorem toldK_eq (told : Int) (h0 : 0 ≤ told) (h1 : told < 18446744073709551616) (k : Nat) (hk : k < 8) : 0 ≤ toldK told k ∧ toldK told k < 18446744073709551616 ∧ toldK told k / 72057594037927936 % 256 = told / 2 ^ (56 - 8 * k) % 256 := by
  match k, hk with
  | 0, _ => refine ⟨h0, h1, rfl⟩
  | 1, _ => simp only [toldK, IntKind.wrap_u64]; refine ⟨by omega, by omega, ?_⟩; show _ = told / 281474976710656 % 256; omega
  | 2, _ => simp only [toldK, IntKind.wrap_u64]; refine ⟨by omega, by omega, ?_⟩; show _ = told / 1099511627776 % 256; omega
  | 3, _ => simp only [toldK, IntKind.wrap_u64]; refine ⟨by omega, by omega, ?_⟩; show _ = told / 4294967296 % 256; omega
  | 4, _ => simp only [toldK, IntKind.wrap_u64]; refine ⟨by omega, by omega, ?_⟩; show _ = told / 16777216 % 256; omega
  | 5, _ => simp only [toldK, IntKind.wrap_u64]; refine ⟨by omega, by omega, ?_⟩; show _ = told / 65536 % 256; omega
  | 6, _ => simp only [toldK, IntKind.wrap_u64]; refine ⟨by omega, by omega, ?_⟩; show _ = told / 256 % 256; omega
  | 7, _ => simp only [toldK, IntKind.wrap_u64]; refine ⟨by omega, by omega, ?_⟩; show _ = told / 1 % 256; omega

/-- One byte appended to a list of one's own: the literal is laid first. -/
theorem one_bytesR (w : World) (x : Int) : BytesAt (w.alloc (.cells #[.int .u8 x] 5)) (.slice (some ⟨w.heap.size, 0, none⟩) 1 1) [x] := (OwnB.one x).bytes
theorem OwnB.shape {w : World} {B : Nat} {v : Value} {ys : List Int} (h : OwnB w B v ys) (hn : 0 < ys.length) : ∃ g cap, v = .slice (some ⟨g, 0, none⟩) ys.length cap ∧ B ≤ g ∧ g < w.heap.size ∧ ys.length ≤ cap ∧ cap ≤ 9223372036854775807 := row_shape h hn
theorem OwnB.cell {w : World} {B g n cap : Nat} {ys : List Int} (h : OwnB w B (.slice (some ⟨g, 0, none⟩) n cap) ys) (i : Nat) (hi : i < ys.length) : w.cell? ⟨g, i, none⟩ = some (.int .u8 (at0 ys i)) := by
  rcases h.2 with ⟨hv, _⟩ | ⟨g', cap', cur, hv, hg, hh, hnc, hcm, hcs, htk⟩
  · cases hv
  · cases hv
    rw [cell_of_row w g i _ _ _ hh, ← Array.getElem?_toList]
    have h2 : (cur.toList.take (ys.length * 1))[i]? = cur.toList[i]? := List.getElem?_take_of_lt (by omega)
    rw [← h2, htk]
    simp [at0, List.getElem?_eq_getElem hi]

set_option maxRecDepth 100000 in
set_option maxHeartbeats 4000000 in
theorem Padded_any (w : World) (v : Value) (xs : List Int) (hx : BytesAt w v xs) (ho : Octs xs) (hn : xs.length ≤ 1000000000000) :
    Calls Tryz.prog 68 #[v] w fun e w' => ∃ u, e = .returned u ∧ OwnU w' w.heap.size u (wordsL (padR xs) ((padR xs).length / 4)) ∧ Kept [] w w' := by
  have HC := Copy0_any v xs w hx (by omega)
  obtain ⟨ao, cap, rfl, hc, _, _⟩ := id hx
  clear hx
  have HHO : Hid (Octs xs) := ho
  clear ho
  go_enter Tryz.func68, Tryz.ntmps68
  go_wp2_with (first
    | (go_at_call 33; refine HC.mono ?_; rintro e w1 ⟨rfl, hr1, hk1⟩
       have HO1 : Hid (OwnB (w1.alloc (.cells #[.int .u8 128] 5)) w.heap.size (.slice (some ⟨w.heap.size, 0, none⟩) xs.length xs.length) xs) := OwnB.kept (own_row hr1 (by omega)) ((Kept.refl [] w1).alloc _) (by simp)
       have HK1 : Hid (Kept [] w (w1.alloc (.cells #[.int .u8 128] 5))) := hk1.alloc _
       have hsz1 := hk1.size
       clear hr1 hk1)
    | (at_builtin; refine wpList_append_bytes rfl (.tmp 12) (.tmp 13) rfl rfl HO1.out rfl (one_bytesR w1 128) (by simp; omega) (by simp; omega) ?_; intro v2 w2 ha2
       obtain ⟨l2, hl2⟩ : ∃ l2, l2 = headL xs := ⟨_, rfl⟩
       have HL2 : Hid (l2 = headL xs ++ List.replicate 0 0) := by show _ = _; rw [hl2]; simp
       have HO2 : Hid (OwnB w2 w.heap.size v2 l2) := by have h := ha2.own; rw [hl2]; exact h
       have hp2 : 0 < l2.length := by rw [hl2]; simp [headL]
       have HK2 : Hid (Kept [] w w2) := ha2.keep w [] HK1.out (fun k hk => Or.inr (by cases hk; exact Nat.le_refl _))
       obtain ⟨g2, c2, rfl, _, _, hc2, hm2⟩ := HO2.out.shape hp2
       clear ha2 hl2))
  clear HC HO1 HK1 hsz1
  go_loopw [3] (fun s3 wr => ∃ (j : Nat) (l : List Int) (g c : Nat), Hid (l = headL xs ++ List.replicate j 0) ∧ j ≤ zerosN xs.length ∧ s3 = .slice (some ⟨g, 0, none⟩) l.length c ∧ l.length ≤ c ∧ c ≤ 9223372036854775807 ∧ Hid (OwnB wr w.heap.size (.slice (some ⟨g, 0, none⟩) l.length c) l) ∧ Hid (Kept [] w wr)) (fun s3 _ => xs.length + 1 + 64 - lenOf s3)
  case atStart => exact ⟨0, l2, g2, c2, HL2, Nat.zero_le _, rfl, hc2, hm2, HO2, HK2⟩
  case round =>
    obtain ⟨j, l, g, c, HL, hj, rfl, hjc, hcm, HO, HK⟩ := hrel
    clear HO2 HK2 hc2 hm2 HL2 hp2
    have hze := zerosN_end xs.length j hj
    have hz63 : zerosN xs.length < 64 := Nat.mod_lt _ (by decide)
    have hll : l.length = xs.length + 1 + j := by rw [HL.out]; simp [headL]; omega
    have HLL : Hid (l.length = xs.length + 1 + j) := hll
    have r1 : Int.tmod (l.length : Int) 64 = ((l.length % 64 : Nat) : Int) := by rw [Int.tmod_eq_emod_of_nonneg (by omega)]; omega
    obtain ⟨m, hm⟩ : ∃ m, m = l.length % 64 := ⟨_, rfl⟩
    rw [← hm] at r1
    by_cases hlt : j < zerosN xs.length
    · have hne : ¬ (m : Int) = 56 := by omega
      have hbd : l.length + 1 ≤ 140737488355328 := by omega
      have HN : Hid (l ++ [0] = headL xs ++ List.replicate (j + 1) 0) := by show _ = _; rw [HL.out, List.append_assoc, List.replicate_succ']
      clear hll hze hm
      have HO1 : Hid (OwnB (wr.alloc (.cells #[.int .u8 0] 5)) w.heap.size (.slice (some ⟨g, 0, none⟩) l.length c) l) := OwnB.kept HO.out ((Kept.refl [] wr).alloc _) (by simp)
      have HK1 : Hid (Kept [] w (wr.alloc (.cells #[.int .u8 0] 5))) := HK.out.alloc _
      have hsz : w.heap.size ≤ wr.heap.size := HK.out.size
      have hgB : Hid (w.heap.size ≤ g) := (World.ownsRow.lt HO.out g rfl).1
      go_wp2_with (at_builtin; refine wpList_append_bytes rfl (.tmp 19) (.tmp 20) rfl rfl HO1.out rfl (one_bytesR wr 0) (by simpa using hbd) (by simp; omega) ?_; intro v2 w2 ha2
                   obtain ⟨l2, hl2⟩ : ∃ l2, l2 = l ++ [0] := ⟨_, rfl⟩
                   have HL2 : Hid (l2 = headL xs ++ List.replicate (j + 1) 0) := hl2.trans HN.out
                   have HO2 : Hid (OwnB w2 w.heap.size v2 l2) := by have h := ha2.own; rw [hl2]; exact h
                   have hp2 : 0 < l2.length := by rw [hl2]; simp
                   have HP2 : Hid (l2.length = l.length + 1) := by show _ = _; rw [hl2]; simp
                   have HK2 : Hid (Kept [] w w2) := ha2.keep w [] HK1.out (fun k hk => Or.inr (by cases hk; exact hgB.out))
                   obtain ⟨g2, c2, rfl, _, _, hc2, hm2⟩ := HO2.out.shape hp2
                   clear ha2 hl2)
      go_roundw
      case rel => exact ⟨j + 1, l2, g2, c2, HL2, by omega, rfl, hc2, hm2, HO2, HK2⟩
      case measure => have := HP2.out; have := HLL.out; simp [lenOf]; omega
    · obtain rfl : j = zerosN xs.length := by omega
      have hme : (m : Int) = 56 := by omega
      clear hze hm hll hlt hj
      obtain ⟨bs, hbs⟩ : ∃ bs, bs = headL xs ++ List.replicate (zerosN xs.length) 0 := ⟨_, rfl⟩
      have HLB : Hid (l = bs ++ (lastL (8 * (xs.length : Int))).take 0) := by show _ = _; rw [HL.out, hbs]; simp
      have HBL : Hid (bs.length = xs.length + 1 + zerosN xs.length) := by show _ = _; rw [hbs]; simp [headL]; omega
      have HBS : Hid (padR xs = bs ++ lastL (8 * (xs.length : Int))) := by show _ = _; rw [hbs]; rfl
      obtain ⟨told, htold⟩ : ∃ told : Int, told = 8 * (xs.length : Int) := ⟨_, rfl⟩
      have HT0 : Hid (0 ≤ told ∧ told < 18446744073709551616) := by constructor <;> omega
      have HT : Hid (told = 8 * (xs.length : Int)) := htold
      rw [← htold] at HLB HBS
      clear hbs HL
      go_wp2
      rw [← htold]
      have hzz : bs.length + 8 ≤ 140737488355328 := by have := HBL.out; omega
      clear htold hme r1 HLL
      go_loopw [3, 4, 5] (fun s3 s4 s5 wr => ∃ (k : Nat) (l : List Int) (g c : Nat), Hid (l = bs ++ (lastL told).take k) ∧ k ≤ 8 ∧ s5 = .int .i64 k ∧ s4 = .int .u64 (toldK told k) ∧ s3 = .slice (some ⟨g, 0, none⟩) l.length c ∧ l.length ≤ c ∧ c ≤ 9223372036854775807 ∧ Hid (OwnB wr w.heap.size (.slice (some ⟨g, 0, none⟩) l.length c) l) ∧ Hid (Kept [] w wr)) (fun _ _ s5 _ => 8 - (intOf s5).toNat)
      case atStart => exact ⟨0, l, g, c, HLB, Nat.zero_le _, rfl, rfl, rfl, hjc, hcm, HO, HK⟩
      case round =>
        clear HO HK HLB hjc hcm
        obtain ⟨k, l, g, c, HL, hk, rfl, rfl, rfl, hjc, hcm, HO, HK⟩ := hrel
        by_cases hlt : k < 8
        · obtain ⟨t0, t1, t2⟩ := toldK_eq told HT0.out.1 HT0.out.2 k hlt
          have HT2 : Hid (toldK told k / 72057594037927936 % 256 = told / 2 ^ (56 - 8 * k) % 256) := t2
          have HT3 : Hid (toldK told (k + 1) = IntKind.u64.wrap (toldK told k * 256)) := rfl
          obtain ⟨B, hB⟩ : ∃ B, B = toldK told k / 72057594037927936 % 256 := ⟨_, rfl⟩
          have HB : Hid (B = toldK told k / 72057594037927936 % 256) := hB
          have hB' : IntKind.u8.wrap (toldK told k / 72057594037927936) = B := by rw [IntKind.wrap_u8, hB]
          have hbd : l.length + 1 ≤ 140737488355328 := by
            have : l.length = bs.length + k := by rw [HL.out]; simp [lastL]; omega
            omega
          have HN : Hid (l ++ [B] = bs ++ (lastL told).take (k + 1)) := by show _ = _; rw [HL.out, List.append_assoc, lastL_take told k hlt, hB, t2]
          clear t2 hB
          generalize toldK told k = T at *
          have HO1 : Hid (OwnB (wr.alloc (.cells #[.int .u8 B] 5)) w.heap.size (.slice (some ⟨g, 0, none⟩) l.length c) l) := OwnB.kept HO.out ((Kept.refl [] wr).alloc _) (by simp)
          have HK1 : Hid (Kept [] w (wr.alloc (.cells #[.int .u8 B] 5))) := HK.out.alloc _
          have hsz : w.heap.size ≤ wr.heap.size := HK.out.size
          have hgB : Hid (w.heap.size ≤ g) := (World.ownsRow.lt HO.out g rfl).1
          go_wp2_with (at_builtin; refine wpList_append_bytes rfl (.tmp 30) (.tmp 34) rfl rfl HO1.out rfl (one_bytesR wr B) (by simpa using hbd) (by simp; omega) ?_; intro v2 w2 ha2
                       obtain ⟨l2, hl2⟩ : ∃ l2, l2 = l ++ [B] := ⟨_, rfl⟩
                       have HL2 : Hid (l2 = bs ++ (lastL told).take (k + 1)) := hl2.trans HN.out
                       have HO2 : Hid (OwnB w2 w.heap.size v2 l2) := by have h := ha2.own; rw [hl2]; exact h
                       have hp2 : 0 < l2.length := by rw [hl2]; simp
                       have HK2 : Hid (Kept [] w w2) := ha2.keep w [] HK1.out (fun k hk => Or.inr (by cases hk; exact hgB.out))
                       obtain ⟨g2, c2, rfl, _, _, hc2, hm2⟩ := HO2.out.shape hp2
                       clear ha2 hl2)
          go_roundw
          case rel => exact ⟨k + 1, l2, g2, c2, HL2, by omega, by go_num, by rw [HT3.out], rfl, hc2, hm2, HO2, HK2⟩
          case measure => simp [intOf]; omega
        · obtain rfl : k = 8 := by omega
          rw [show ((8 : Nat) : Int) = 8 from rfl]
          have HP : Hid (l = padR xs) := by show _ = _; rw [HL.out, lastL_full, HBS.out]
          have hpl := padR_len xs
          have hpo := padR_octs xs HHO.out
          rw [← HP.out] at hpl hpo
          have HPO : Hid (Octs l) := hpo
          have hl4 : l.length % 4 = 0 := by omega
          have hlm : l.length ≤ 1000000000100 := by omega
          clear HL hpo hpl hk hlt
          have hgl : g < wr.heap.size := (World.ownsRow.lt HO.out g rfl).2
          generalize toldK told 8 = T at *
          go_wp2
          go_loopw [6, 7] (fun s6 s7 wr => ∃ (n p : Nat) (u : Value), u = s6 ∧ Hid (p = 4 * n) ∧ p ≤ l.length ∧ s7 = .int .i64 p ∧ Hid (OwnU wr w.heap.size u (wordsL l n)) ∧ Hid (∀ x, u.ownBlock = some x → x ≠ g) ∧ Hid (OwnB wr w.heap.size (.slice (some ⟨g, 0, none⟩) l.length c) l) ∧ Hid (Kept [] w wr)) (fun _ s7 _ => l.length - (intOf s7).toNat)
          case atStart => exact ⟨0, 0, _, rfl, (rfl : 0 = 4 * 0), Nat.zero_le _, rfl, OwnU.nil _ _, (fun x hx => by cases hx), HO, HK⟩
          case round =>
            clear HO HK hgl
            obtain ⟨n, p, u, rfl, HN4, hn4, rfl, HU, HD, HO, HK⟩ := hrel
            have hgl : g < wr.heap.size := (World.ownsRow.lt HO.out g rfl).2
            by_cases hlt : p < l.length
            · have hd : decide ((p : Int) < (l.length : Int)) = true := decide_eq_true (by omega)
              have hp3 : p + 3 < l.length := by have := HN4.out; omega
              obtain ⟨wa, hwa⟩ : ∃ wa, wa = wr := ⟨_, rfl⟩
              subst wr
              go_wp2
              go_loopw [8, 9] (fun s8 s9 wq => ∃ k : Nat, k ≤ 4 ∧ s9 = .int .i64 k ∧ s8 = .int .u64 (accL l p k) ∧ Hid (Kept [] wa wq)) (fun _ s9 _ => 4 - (intOf s9).toNat)
              case atStart => exact ⟨0, Nat.zero_le _, rfl, rfl, Kept.refl [] wa⟩
              case round =>
                obtain ⟨k, hk, rfl, rfl, HKa⟩ := hrel
                by_cases hlk : k < 4
                · have hc1 : wr.cell? ⟨g, p + k, none⟩ = some (.int .u8 (at0 l (p + k))) := HKa.out.cell (HO.out.cell (p + k) (by omega)) (by simp)
                  have hb1 := octs_at0 HPO.out (p + k)
                  have hf1 := accL_fits HPO.out p k
                  have hp1 : (256 : Int) ^ k ≤ 16777216 := by
                    have : k = 0 ∨ k = 1 ∨ k = 2 ∨ k = 3 := by omega
                    rcases this with rfl | rfl | rfl | rfl <;> decide
                  have hf2 : accL l p k < 16777216 := by omega
                  have hf3 := hf1.1
                  have HN : Hid (accL l p (k + 1) = 256 * accL l p k + at0 l (p + k)) := accL_succ l p k
                  have hkp : p + k < l.length := by omega
                  clear hf1 hp1
                  generalize accL l p k = X at *
                  generalize at0 l (p + k) = Y at *
                  go_wp2
                  go_roundw
                  case rel => exact ⟨k + 1, by omega, by go_num, by rw [HN.out], by first | exact HKa | exact HKa.out.drewN _ | exact HKa.out.drew⟩
                  case measure => simp [intOf]; omega
                · obtain rfl : k = 4 := by omega
                  rw [show ((4 : Nat) : Int) = 4 from rfl]
                  have HW : Hid (wordsL l n ++ [accL l p 4] = wordsL l (n + 1)) := by show _ = _; rw [wordsL_succ, HN4.out]
                  generalize accL l p 4 = X at *
                  have HU1 : Hid (OwnU (wr.alloc (.cells #[.int .u64 X] 31)) w.heap.size u (wordsL l n)) := OwnU.kept (OwnU.kept HU.out HKa.out (by simp)) ((Kept.refl [] wr).alloc _) (by simp)
                  have hsz : w.heap.size ≤ wr.heap.size := Nat.le_trans HK.out.size HKa.out.size
                  have HB : Hid (∀ k, u.ownBlock = some k → w.heap.size ≤ k) := fun k hk => (World.ownsRow.lt HU.out k hk).1
                  have hX0 : (wr.alloc (.cells #[.int .u64 X] 31)).cell? ⟨wr.heap.size, 0, none⟩ = some (.int .u64 X) := by rw [cell_of_row _ _ _ _ _ _ (heap_alloc_new wr _)]; rfl
                  have HX0 : Hid ((wr.alloc (.cells #[.int .u64 X] 31)).cell? ⟨wr.heap.size, 0, none⟩ = some (.int .u64 X)) := hX0
                  have hwl : (wordsL l n).length ≤ 1000000000100 := by rw [wordsL_len]; have := HN4.out; omega
                  clear hX0
                  go_wp2_with (at_builtin; refine wpList_append_word rfl (.tmp 58) (.tmp 60) rfl rfl HU1.out rfl HX0.out (by omega) (by simp; omega) ?_; intro v2 w2 ha2
                               have HU2 : Hid (OwnU w2 w.heap.size v2 (wordsL l (n + 1))) := by have h := ha2.own; rw [HW.out] at h; exact h
                               have HK2 : Hid (Kept [] w w2) := ha2.keep w [] ((HK.out.then HKa.out).alloc _) (fun k hk => Or.inr (HB.out k hk))
                               have HD2 : Hid (∀ x, v2.ownBlock = some x → x ≠ g) := fun x hx => by
                                 rcases ha2.at' with h | h
                                 · exact HD.out x (h ▸ hx)
                                 · rw [h] at hx
                                   have h2 : (wr.alloc (.cells #[.int .u64 X] 31)).heap.size = x := by simpa using hx
                                   have := HKa.out.size
                                   simp at h2
                                   omega
                               have HO2 : Hid (OwnB w2 w.heap.size (.slice (some ⟨g, 0, none⟩) l.length c) l) := by
                                 have k1 : Kept u.ownBlock.toList (wr.alloc (.cells #[.int .u64 X] 31)) w2 := ha2.keep _ _ (Kept.refl _ _) (fun k hk => Or.inl (mem_toList_some hk))
                                 refine OwnB.kept (OwnB.kept HO.out (HKa.out.alloc _) (by simp)) k1 (fun x hx hm => ?_)
                                 cases hx
                                 exact HD.out g (of_mem_toList hm) rfl
                               clear ha2)
                  go_roundw
                  case rel => exact ⟨n + 1, p + 4, v2, rfl, (show p + 4 = 4 * (n + 1) by rw [HN4.out]; omega), by omega, by go_num, HU2, HD2, HO2, HK2⟩
                  case measure => simp [intOf]; omega
            · obtain rfl : p = l.length := by omega
              have HF : Hid (OwnU wr w.heap.size u (wordsL (padR xs) ((padR xs).length / 4))) := by
                have h := HU.out
                have h4 := HN4.out
                rw [show n = l.length / 4 by omega, HP.out] at h
                exact h
              go_wp2
              go_ret
              exact ⟨u, rfl, HF.out, HK.out⟩
end Go.Proofs.YtfcoeinhfdbcgaaGreatDoor
