/-
  WALK: (*digest.Hash).Write, for every Hash and every list of bytes.
-/
import Derived.Test.YtlljiipmkjjhhaaDoorSha4
namespace Go.Proofs.YtlljiipmkjjhhaaDoor
open Go.RowKit

/-- A Hash in memory: its words, the bytes that do not fill a block yet, how many bytes came. -/
def HashOf (w : World) (b : Nat) (s : List Int × List Int) (len : Int) : Prop := ∃ rest, HashAt w b s.1 (s.2 ++ rest) s.2.length len ∧ s.2.length < 64
theorem HashOf.kept {S : List Nat} {w w' : World} {b : Nat} {s : List Int × List Int} {len : Int} (h : HashOf w b s len) (k : Kept S w w') (hn : b ∉ S) : HashOf w' b s len := by
  obtain ⟨r, h1, h2⟩ := h
  exact ⟨r, h1.kept k hn, h2⟩
/-- How long a slice is. -/
def lenOf : Value → Nat
  | .slice _ n _ => n
  | _ => 0

theorem BytesAt.tail {w : World} {q off cap : Nat} {ys : List Int} (h : BytesAt w (.slice (some ⟨q, off, none⟩) ys.length cap) ys) (m : Nat) (hm : m ≤ ys.length) : BytesAt w (.slice (some ⟨q, off + m, none⟩) (ys.length - m) (cap - m)) (ys.drop m) := by
  obtain ⟨ao, cap', e, hc, hnil, hcell⟩ := h
  injection e with e1 e2 e3
  subst e1 e3
  refine ⟨some ⟨q, off + m, none⟩, cap - m, by rw [List.length_drop], by rw [List.length_drop]; omega, (fun e => by cases e), fun hne => ⟨q, off + m, rfl, fun i u hu => ?_⟩⟩
  have hne' : ys ≠ [] := by rintro rfl; simp at hne
  obtain ⟨b', off', e, hh⟩ := hcell hne'
  injection e with e
  injection e with e1 e2
  subst e1 e2
  rw [List.getElem?_drop] at hu
  have := hh _ _ hu
  rwa [← Nat.add_assoc] at this
theorem BytesAt.empty (w : World) (a : Addr) (cap : Nat) : BytesAt w (.slice (some a) 0 cap) [] := ⟨some a, cap, rfl, Nat.zero_le _, (fun e => by cases e), fun h => absurd rfl h⟩
/-- Behind a piece that is copied in. -/
theorem HashAt.piece {w : World} {b : Nat} {ws pend rest ys : List Int} {p : Nat} {len : Int} (h : HashAt w b ws (pend ++ rest) p len) (hp : p = pend.length) (hm : p + ys.length ≤ 64) (ho : Octs ys) (cs : List Value) (hcs : cs = ys.map (Value.int .u8)) :
    HashAt (w.setRow b ((hashC ws (pend ++ rest) p len).toList.take (8 + p) ++ (cs ++ (hashC ws (pend ++ rest) p len).toList.drop (8 + p + cs.length))).toArray) b ws ((pend ++ ys) ++ rest.drop ys.length) p len := by
  have := h.splice p ys hm ho
  rw [← hcs] at this
  have e : (pend ++ rest).take p ++ (ys ++ (pend ++ rest).drop (p + ys.length)) = (pend ++ ys) ++ rest.drop ys.length := by
    rw [hp, List.take_left, List.drop_append, List.drop_eq_nil_of_le (by omega), List.nil_append, show pend.length + ys.length - pend.length = ys.length by omega, List.append_assoc]
  rwa [e] at this
theorem Tryd.arr64 : Tryd.prog.underlying 93 = some (.array (Tryd.prog.arrayLen 93) (Tryd.prog.elem 93)) := by kernel_rfl
theorem Tryd.len64 : Tryd.prog.arrayLen 93 = 64 := by kernel_rfl
theorem Tryd.one64 (W : World) : (sizeOf (Tryd.prog.elem 93)).run Tryd.prog W = .ok 1 W := by kernel_rfl
theorem slice_block (b p : Nat) (h : p < 64) (W : World) : (Instr.sliceAt 93 (.pointer (some ⟨b, 8, none⟩)) (some (.int .i64 p)) none none).run Tryd.prog W = .ok (.slice (some ⟨b, 8 + p, none⟩) (64 - p) (64 - p)) W := by
  rw [run_sliceAt_array_l W _ _ Tryd.arr64 .i64 p (by omega) (by rw [Tryd.len64]; omega), Tryd.one64 W, Tryd.len64]
  simp only [Result.andThen_ok, slicedAt, Int.toNat_natCast]
  rw [if_neg (by omega), Nat.mul_one, Addr.add_mid]

set_option maxRecDepth 100000 in
set_option maxHeartbeats 4000000 in
theorem Write_any (w : World) (b : Nat) (s : List Int × List Int) (len : Int) (v : Value) (xs : List Int) (hV : Vars w) (hb0 : b ≠ 1) (hb1 : b ≠ 2) (hH : HashOf w b s len) (hx : BytesAt w v xs) (ho : Octs xs)
    (hd : ∀ q, blkOf v = some q → xs ≠ [] → q ≠ b) (hn : xs.length ≤ 140737488355328) :
    Calls Tryd.prog 37 #[.pointer (some ⟨b, 0, none⟩), v] w fun e w' => e = .returned (.tuple #[]) ∧ HashOf w' b (feedL s xs) (IntKind.u64.wrap (len + xs.length)) ∧ Kept [b] w w' := by
  obtain ⟨rest, hA, hp⟩ := hH
  obtain ⟨L, hL⟩ : ∃ L, IntKind.u64.wrap (len + xs.length) = L := ⟨_, rfl⟩
  have c73 := hA.length
  have f73 := hA.free 73
  have HS0 : Hid (HashOf (w.setCell ⟨b, 73, none⟩ (.int .u64 L)) b (feedL s (xs.take 0)) L) := ⟨rest, hA.putLen L, hp⟩
  have HX0 : Hid (BytesAt (w.setCell ⟨b, 73, none⟩ (.int .u64 L)) v xs) := hx.kept' ((Kept.refl [b] w).setCell (Or.inl (by simp)) _) (fun hne q hq h => hd q hq hne (by simpa using h))
  have HD : Hid (∀ q, blkOf v = some q → xs ≠ [] → q ≠ b) := hd
  have HV : Hid (Vars w) := hV
  have r1 : IntKind.u64.wrap (xs.length : Int) = xs.length := by rw [IntKind.wrap_u64]; omega
  obtain ⟨ao, cap, rfl, hc, hnil, hcell⟩ := hx
  rw [hL]
  clear hA hcell hnil hd hV hc hp
  go_enter Tryd.func37, Tryd.ntmps37
  go_wp2
  clear c73 f73 r1 hL
  go_loopw [1] (fun s1 wr => ∃ k : Nat, k ≤ xs.length ∧ Hid (BytesAt wr s1 (xs.drop k)) ∧ Hid (∀ q, blkOf s1 = some q → xs.drop k ≠ [] → q ≠ b) ∧ Hid (HashOf wr b (feedL s (xs.take k)) L) ∧ Kept [b] w wr) (fun s1 _ => lenOf s1)
  case atStart => exact ⟨0, Nat.zero_le _, by rw [List.drop_zero]; exact HX0, HD, HS0, (Kept.refl [b] w).setCell (Or.inl (by simp)) _⟩
  case round =>
    obtain ⟨k, hk, HX, HD1, HS, hK⟩ := hrel
    rcases HX.out.parts with ⟨he, ao', cap', rfl⟩ | ⟨q, off, cap', rfl, hcap, hpos, hcells⟩
    · have hk' : k = xs.length := by
        have := congrArg List.length he
        simp at this
        omega
      subst hk'
      go_wp2
      go_end0
      refine ⟨rfl, ?_, hK⟩
      have := HS.out
      rwa [List.take_length] at this
    · obtain ⟨rest, hA, hp⟩ := HS.out
      have HNE : Hid (xs.drop k ≠ []) := List.ne_nil_of_length_pos hpos
      have hq : q ≠ b := HD1.out q rfl HNE.out
      have hV : Hid (Vars wr) := HV.out.kept hK (by simpa using fun h => hb0 h.symm) (by simpa using fun h => hb1 h.symm)
      have HF : Hid (∀ m, feedL s (xs.take (k + m)) = feedL (feedL s (xs.take k)) ((xs.drop k).take m)) := fun m => by rw [← feed_append, ← List.take_add]
      have hol : Octs (xs.drop k) := octs_drop ho k
      have HLEN : Hid ((xs.drop k).length = xs.length - k) := by show _ = _; simp
      have HDR : Hid (∀ m, (xs.drop k).drop m = xs.drop (k + m)) := fun m => by rw [List.drop_drop]
      have c72 := hA.filled
      have f72 := hA.free 72
      have HC : Hid (∀ i, i < (xs.drop k).length → wr.cell? ⟨q, off + i, none⟩ = some (.int .u8 ((xs.drop k)[i]?.getD 0))) := hcells
      have HA : Hid _ := hA
      have HO : Hid (Octs (xs.drop k)) := hol
      clear hcells hol hA
      generalize feedL s (xs.take k) = S at *
      generalize xs.drop k = ys at *
      obtain ⟨p, hpe⟩ : ∃ p, p = S.2.length := ⟨_, rfl⟩
      rw [← hpe] at hp c72 HA
      have HPE : Hid (p = S.2.length) := hpe
      clear hpe
      rcases Nat.lt_trichotomy (64 - p) ys.length with hcmp | hcmp | hcmp
      · obtain ⟨m, hm⟩ : ∃ m, p + m = 64 := ⟨64 - p, by omega⟩
        have m1 : 0 < m := by omega
        have m2 : m < ys.length := by omega
        have m5 : m ≤ cap' := by omega
        have m6 : m < cap' := by omega
        have m3 : (64 : Int) - (p : Int) = m := by omega
        have e64 : (p : Int) + (m : Int) = 64 := by omega
        obtain ⟨cs, hcs⟩ : ∃ cs, cs = (ys.take m).map (Value.int .u8) := ⟨_, rfl⟩
        have HCS : Hid (cs = (ys.take m).map (Value.int .u8)) := hcs
        have hcl : cs.length = m := by rw [hcs, List.length_map, List.length_take, Nat.min_eq_left (by omega)]
        have hco : ∀ v ∈ cs, v.oneCell' = true := by rw [hcs]; exact map_oneCell _
        have HSRC : Hid (∀ j v, cs[j]? = some v → wr.cell? ((⟨q, off, none⟩ : Addr).add j) = some v) := by
          intro j u hu
          rw [hcs] at hu
          simp only [List.getElem?_map, Option.map_eq_some_iff] at hu
          obtain ⟨z, hz, rfl⟩ := hu
          obtain ⟨hj, hz⟩ : j < m ∧ ys[j]? = some z := by simpa only [List.getElem?_take, Option.ite_none_right_eq_some] using hz
          have := HC.out j (by omega)
          rw [hz] at this
          rw [Addr.add_mid]
          exact this
        have n1 : Hid (cs.length = Nat.min m (64 - p)) := by rw [hcl]; exact (Nat.min_eq_left (by omega)).symm
        have n2 : 8 + p + cs.length ≤ (hashC S.fst (S.snd ++ rest) (↑p) L).size := by rw [hashC_size HA.out.words HA.out.bytes]; omega
        have hsl := fun W => slice_block b p hp W
        have HW3 : Hid (HashAt (wr.drew.setRow b ((hashC S.fst (S.snd ++ rest) (↑p) L).toList.take (8 + p) ++ (cs ++ (hashC S.fst (S.snd ++ rest) (↑p) L).toList.drop (8 + p + cs.length))).toArray) b S.fst ((S.snd ++ ys.take m) ++ rest.drop (ys.take m).length) p L) := HA.out.drew.piece HPE.out (by rw [List.length_take]; omega) (octs_take HO.out m) cs hcs
        have HK3 : Hid (Kept [b] wr (wr.drew.setRow b ((hashC S.fst (S.snd ++ rest) (↑p) L).toList.take (8 + p) ++ (cs ++ (hashC S.fst (S.snd ++ rest) (↑p) L).toList.drop (8 + p + cs.length))).toArray)) := (Kept.refl [b] wr).drew.setRow1 (by simp) _
        clear hcs hcl
        go_wp2
        go_region_law ((refine step_copy_row rfl (.tmp 33) (.tmp 36) 25 25 rfl 5 Tryd.underlying25 Tryd.size_u8 b (8 + p) (64 - p) (64 - p) ⟨q, off, none⟩ m cap' rfl rfl _ 95 HA.out.cells cs n1.out HSRC.out n2 hco ?_))
        generalize wr.drew.setRow b ((hashC S.fst (S.snd ++ rest) (↑p) L).toList.take (8 + p) ++ (cs ++ (hashC S.fst (S.snd ++ rest) (↑p) L).toList.drop (8 + p + cs.length))).toArray = w3 at *
        clear c72 f72 hsl n2 hco HA HSRC n1 HC
        have c72 := HW3.out.filled
        have f72 := HW3.out.free 72
        have HB3 : Hid (rest.drop (ys.take m).length = []) := by
          have hby := HW3.out.bytes
          have hpe := HPE.out
          simp only [List.length_append] at hby
          exact List.eq_nil_of_length_eq_zero (by rw [List.length_take] at hby ⊢; omega)
        rw [HB3.out, List.append_nil] at HW3
        have HV3 : Hid (Vars (w3.setCell ⟨b, 72, none⟩ (.int .i64 64))) := hV.out.kept (HK3.out.setCell (Or.inl (by simp)) _) (by simpa using fun h => hb0 h.symm) (by simpa using fun h => hb1 h.symm)
        have HW4 : Hid (HashAt (w3.setCell ⟨b, 72, none⟩ (.int .i64 64)) b S.fst (S.snd ++ ys.take m) 64 L) := HW3.out.putFilled 64
        have HK4 : Hid (Kept [b] wr (w3.setCell ⟨b, 72, none⟩ (.int .i64 64))) := HK3.out.setCell (Or.inl (by simp)) _
        go_wp2_with (go_at_call 68; refine (mix_any _ b S.fst _ 64 L HV3.out HW4.out).mono ?_; rintro e w5 ⟨rfl, hH5, hk5⟩
                     have f5 := hH5.free 72
                     have c5 := hH5.filled
                     have HH5 : Hid (HashAt (w5.setCell ⟨b, 72, none⟩ (.int .i64 0)) b _ _ 0 L) := hH5.putFilled 0
                     have HK5 : Hid (Kept [b] wr (w5.setCell ⟨b, 72, none⟩ (.int .i64 0))) := (HK4.out.then hk5).setCell (Or.inl (by simp)) _
                     clear hH5 hk5)
        go_roundw
        case rel =>
          refine ⟨k + m, ?_, ?_, ?_, ?_, hK.then HK5.out⟩
          · have := HLEN.out; omega
          · rw [← HDR.out]
            exact (HX.out.kept' HK5.out (fun hne x hx h => HD1.out x hx hne (by simpa using h))).tail m (by omega)
          · exact fun x hx _ => HD1.out x hx HNE.out
          · rw [HF.out]
            refine ⟨S.snd ++ ys.take m, ?_, feed_pend _ _ (by rw [← HPE.out]; exact hp)⟩
            rw [show S = (S.fst, S.snd) from rfl, feed_full S.fst S.snd _ (by rw [← HPE.out, List.length_take]; omega) (by rw [← HPE.out]; exact hp)]
            exact HH5.out
        case measure => simp [lenOf]; omega
      · have m3 : (64 : Int) - (p : Int) = ys.length := by omega
        have HCMP : Hid (64 - p = ys.length) := hcmp
        have m7 : p + ys.length ≤ 64 := by omega
        clear hcmp
        have e64 : (p : Int) + (ys.length : Int) = 64 := by omega
        by_cases hend : cap' = ys.length
        · subst hend
          obtain ⟨cs, hcs⟩ : ∃ cs, cs = ys.map (Value.int .u8) := ⟨_, rfl⟩
          have HCS : Hid (cs = ys.map (Value.int .u8)) := hcs
          have hcl : cs.length = ys.length := by rw [hcs, List.length_map]
          have hco : ∀ v ∈ cs, v.oneCell' = true := by rw [hcs]; exact map_oneCell _
          have HSRC : Hid (∀ j v, cs[j]? = some v → wr.cell? ((⟨q, off, none⟩ : Addr).add j) = some v) := by
            intro j u hu
            rw [hcs] at hu
            simp only [List.getElem?_map, Option.map_eq_some_iff] at hu
            obtain ⟨z, hz, rfl⟩ := hu
            have hj : j < ys.length := (List.getElem?_eq_some_iff.1 hz).1
            have := HC.out j (by omega)
            rw [hz] at this
            rw [Addr.add_mid]
            exact this
          have n1 : Hid (cs.length = Nat.min ys.length (64 - p)) := by rw [hcl]; exact (Nat.min_eq_left (by omega)).symm
          have n2 : 8 + p + cs.length ≤ (hashC S.fst (S.snd ++ rest) (↑p) L).size := by rw [hashC_size HA.out.words HA.out.bytes]; omega
          have hsl := fun W => slice_block b p hp W
          have HW3 : Hid (HashAt (wr.drew.setRow b ((hashC S.fst (S.snd ++ rest) (↑p) L).toList.take (8 + p) ++ (cs ++ (hashC S.fst (S.snd ++ rest) (↑p) L).toList.drop (8 + p + cs.length))).toArray) b S.fst ((S.snd ++ ys) ++ rest.drop ys.length) p L) := HA.out.drew.piece HPE.out (by omega) HO.out cs hcs
          have HK3 : Hid (Kept [b] wr (wr.drew.setRow b ((hashC S.fst (S.snd ++ rest) (↑p) L).toList.take (8 + p) ++ (cs ++ (hashC S.fst (S.snd ++ rest) (↑p) L).toList.drop (8 + p + cs.length))).toArray)) := (Kept.refl [b] wr).drew.setRow1 (by simp) _
          clear hcs hcl
          go_wp2
          go_region_law ((refine step_copy_row rfl (.tmp 33) (.tmp 36) 25 25 rfl 5 Tryd.underlying25 Tryd.size_u8 b (8 + p) (64 - p) (64 - p) ⟨q, off, none⟩ ys.length ys.length rfl rfl _ 95 HA.out.cells cs n1.out HSRC.out n2 hco ?_))
          generalize wr.drew.setRow b ((hashC S.fst (S.snd ++ rest) (↑p) L).toList.take (8 + p) ++ (cs ++ (hashC S.fst (S.snd ++ rest) (↑p) L).toList.drop (8 + p + cs.length))).toArray = w3 at *
          clear c72 f72 hsl n2 hco HA HSRC n1 HC
          have c72 := HW3.out.filled
          have f72 := HW3.out.free 72
          have HB3 : Hid (rest.drop ys.length = []) := by
            have hby := HW3.out.bytes
            have hcm := HCMP.out
            have hpe := HPE.out
            simp only [List.length_append] at hby
            exact List.eq_nil_of_length_eq_zero (by rw [List.length_drop] at hby ⊢; omega)
          rw [HB3.out, List.append_nil] at HW3
          have HV3 : Hid (Vars (w3.setCell ⟨b, 72, none⟩ (.int .i64 64))) := hV.out.kept (HK3.out.setCell (Or.inl (by simp)) _) (by simpa using fun h => hb0 h.symm) (by simpa using fun h => hb1 h.symm)
          have HW4 : Hid (HashAt (w3.setCell ⟨b, 72, none⟩ (.int .i64 64)) b S.fst (S.snd ++ ys) 64 L) := HW3.out.putFilled 64
          have HK4 : Hid (Kept [b] wr (w3.setCell ⟨b, 72, none⟩ (.int .i64 64))) := HK3.out.setCell (Or.inl (by simp)) _
          go_wp2_with (go_at_call 68; refine (mix_any _ b S.fst _ 64 L HV3.out HW4.out).mono ?_; rintro e w5 ⟨rfl, hH5, hk5⟩
                       have f5 := hH5.free 72
                       have c5 := hH5.filled
                       have HH5 : Hid (HashAt (w5.setCell ⟨b, 72, none⟩ (.int .i64 0)) b _ _ 0 L) := hH5.putFilled 0
                       have HK5 : Hid (Kept [b] wr (w5.setCell ⟨b, 72, none⟩ (.int .i64 0))) := (HK4.out.then hk5).setCell (Or.inl (by simp)) _
                       clear hH5 hk5)
          go_roundw
          case rel =>
            refine ⟨k + ys.length, ?_, ?_, ?_, ?_, hK.then HK5.out⟩
            · have := HLEN.out; omega
            · rw [← HDR.out, List.drop_length]
              exact BytesAt.empty _ _ _
            · exact fun x hx _ => HD1.out x hx HNE.out
            · rw [HF.out, List.take_length]
              refine ⟨S.snd ++ ys, ?_, feed_pend _ _ (by rw [← HPE.out]; exact hp)⟩
              rw [show S = (S.fst, S.snd) from rfl, feed_full S.fst S.snd _ (by rw [← HPE.out]; have := HCMP.out; omega) (by rw [← HPE.out]; exact hp)]
              exact HH5.out
          case measure => simp [lenOf]; omega
        · have m6 : ys.length < cap' := by omega
          obtain ⟨cs, hcs⟩ : ∃ cs, cs = ys.map (Value.int .u8) := ⟨_, rfl⟩
          have HCS : Hid (cs = ys.map (Value.int .u8)) := hcs
          have hcl : cs.length = ys.length := by rw [hcs, List.length_map]
          have hco : ∀ v ∈ cs, v.oneCell' = true := by rw [hcs]; exact map_oneCell _
          have HSRC : Hid (∀ j v, cs[j]? = some v → wr.cell? ((⟨q, off, none⟩ : Addr).add j) = some v) := by
            intro j u hu
            rw [hcs] at hu
            simp only [List.getElem?_map, Option.map_eq_some_iff] at hu
            obtain ⟨z, hz, rfl⟩ := hu
            have hj : j < ys.length := (List.getElem?_eq_some_iff.1 hz).1
            have := HC.out j (by omega)
            rw [hz] at this
            rw [Addr.add_mid]
            exact this
          have n1 : Hid (cs.length = Nat.min ys.length (64 - p)) := by rw [hcl]; exact (Nat.min_eq_left (by omega)).symm
          have n2 : 8 + p + cs.length ≤ (hashC S.fst (S.snd ++ rest) (↑p) L).size := by rw [hashC_size HA.out.words HA.out.bytes]; omega
          have hsl := fun W => slice_block b p hp W
          have HW3 : Hid (HashAt (wr.drew.setRow b ((hashC S.fst (S.snd ++ rest) (↑p) L).toList.take (8 + p) ++ (cs ++ (hashC S.fst (S.snd ++ rest) (↑p) L).toList.drop (8 + p + cs.length))).toArray) b S.fst ((S.snd ++ ys) ++ rest.drop ys.length) p L) := HA.out.drew.piece HPE.out (by omega) HO.out cs hcs
          have HK3 : Hid (Kept [b] wr (wr.drew.setRow b ((hashC S.fst (S.snd ++ rest) (↑p) L).toList.take (8 + p) ++ (cs ++ (hashC S.fst (S.snd ++ rest) (↑p) L).toList.drop (8 + p + cs.length))).toArray)) := (Kept.refl [b] wr).drew.setRow1 (by simp) _
          clear hcs hcl
          go_wp2
          go_region_law ((refine step_copy_row rfl (.tmp 33) (.tmp 36) 25 25 rfl 5 Tryd.underlying25 Tryd.size_u8 b (8 + p) (64 - p) (64 - p) ⟨q, off, none⟩ ys.length cap' rfl rfl _ 95 HA.out.cells cs n1.out HSRC.out n2 hco ?_))
          generalize wr.drew.setRow b ((hashC S.fst (S.snd ++ rest) (↑p) L).toList.take (8 + p) ++ (cs ++ (hashC S.fst (S.snd ++ rest) (↑p) L).toList.drop (8 + p + cs.length))).toArray = w3 at *
          clear c72 f72 hsl n2 hco HA HSRC n1 HC
          have c72 := HW3.out.filled
          have f72 := HW3.out.free 72
          have HB3 : Hid (rest.drop ys.length = []) := by
            have hby := HW3.out.bytes
            have hcm := HCMP.out
            have hpe := HPE.out
            simp only [List.length_append] at hby
            exact List.eq_nil_of_length_eq_zero (by rw [List.length_drop] at hby ⊢; omega)
          rw [HB3.out, List.append_nil] at HW3
          have HV3 : Hid (Vars (w3.setCell ⟨b, 72, none⟩ (.int .i64 64))) := hV.out.kept (HK3.out.setCell (Or.inl (by simp)) _) (by simpa using fun h => hb0 h.symm) (by simpa using fun h => hb1 h.symm)
          have HW4 : Hid (HashAt (w3.setCell ⟨b, 72, none⟩ (.int .i64 64)) b S.fst (S.snd ++ ys) 64 L) := HW3.out.putFilled 64
          have HK4 : Hid (Kept [b] wr (w3.setCell ⟨b, 72, none⟩ (.int .i64 64))) := HK3.out.setCell (Or.inl (by simp)) _
          go_wp2_with (go_at_call 68; refine (mix_any _ b S.fst _ 64 L HV3.out HW4.out).mono ?_; rintro e w5 ⟨rfl, hH5, hk5⟩
                       have f5 := hH5.free 72
                       have c5 := hH5.filled
                       have HH5 : Hid (HashAt (w5.setCell ⟨b, 72, none⟩ (.int .i64 0)) b _ _ 0 L) := hH5.putFilled 0
                       have HK5 : Hid (Kept [b] wr (w5.setCell ⟨b, 72, none⟩ (.int .i64 0))) := (HK4.out.then hk5).setCell (Or.inl (by simp)) _
                       clear hH5 hk5)
          go_roundw
          case rel =>
            refine ⟨k + ys.length, ?_, ?_, ?_, ?_, hK.then HK5.out⟩
            · have := HLEN.out; omega
            · rw [← HDR.out, List.drop_length]
              exact BytesAt.empty _ _ _
            · exact fun x hx _ => HD1.out x hx HNE.out
            · rw [HF.out, List.take_length]
              refine ⟨S.snd ++ ys, ?_, feed_pend _ _ (by rw [← HPE.out]; exact hp)⟩
              rw [show S = (S.fst, S.snd) from rfl, feed_full S.fst S.snd _ (by rw [← HPE.out]; have := HCMP.out; omega) (by rw [← HPE.out]; exact hp)]
              exact HH5.out
          case measure => simp [lenOf]; omega
      · have m4 : ys.length < 64 - p := by omega
        have e63 : ((p : Int) + (ys.length : Int) == 64) = false := by rw [beq_eq_false_iff_ne]; omega
        have w63 : IntKind.i64.wrap ((p : Int) + (ys.length : Int)) = (p : Int) + (ys.length : Int) := by
          have := hp
          simp only [IntKind.wrap, IntKind.bits, IntKind.signed]
          simp
          omega
        by_cases hend : cap' = ys.length
        · subst hend
          obtain ⟨cs, hcs⟩ : ∃ cs, cs = ys.map (Value.int .u8) := ⟨_, rfl⟩
          have HCS : Hid (cs = ys.map (Value.int .u8)) := hcs
          have hcl : cs.length = ys.length := by rw [hcs, List.length_map]
          have hco : ∀ v ∈ cs, v.oneCell' = true := by rw [hcs]; exact map_oneCell _
          have HSRC : Hid (∀ j v, cs[j]? = some v → wr.cell? ((⟨q, off, none⟩ : Addr).add j) = some v) := by
            intro j u hu
            rw [hcs] at hu
            simp only [List.getElem?_map, Option.map_eq_some_iff] at hu
            obtain ⟨z, hz, rfl⟩ := hu
            have hj : j < ys.length := (List.getElem?_eq_some_iff.1 hz).1
            have := HC.out j (by omega)
            rw [hz] at this
            rw [Addr.add_mid]
            exact this
          have n1 : Hid (cs.length = Nat.min ys.length (64 - p)) := by rw [hcl]; exact (Nat.min_eq_left (by omega)).symm
          have n2 : 8 + p + cs.length ≤ (hashC S.fst (S.snd ++ rest) (↑p) L).size := by rw [hashC_size HA.out.words HA.out.bytes]; omega
          have hsl := fun W => slice_block b p hp W
          have HW3 : Hid (HashAt (wr.drew.setRow b ((hashC S.fst (S.snd ++ rest) (↑p) L).toList.take (8 + p) ++ (cs ++ (hashC S.fst (S.snd ++ rest) (↑p) L).toList.drop (8 + p + cs.length))).toArray) b S.fst ((S.snd ++ ys) ++ rest.drop ys.length) p L) := HA.out.drew.piece HPE.out (by omega) HO.out cs hcs
          have HK3 : Hid (Kept [b] wr (wr.drew.setRow b ((hashC S.fst (S.snd ++ rest) (↑p) L).toList.take (8 + p) ++ (cs ++ (hashC S.fst (S.snd ++ rest) (↑p) L).toList.drop (8 + p + cs.length))).toArray)) := (Kept.refl [b] wr).drew.setRow1 (by simp) _
          clear hcs hcl
          go_wp2
          go_region_law ((refine step_copy_row rfl (.tmp 33) (.tmp 36) 25 25 rfl 5 Tryd.underlying25 Tryd.size_u8 b (8 + p) (64 - p) (64 - p) ⟨q, off, none⟩ ys.length ys.length rfl rfl _ 95 HA.out.cells cs n1.out HSRC.out n2 hco ?_))
          generalize wr.drew.setRow b ((hashC S.fst (S.snd ++ rest) (↑p) L).toList.take (8 + p) ++ (cs ++ (hashC S.fst (S.snd ++ rest) (↑p) L).toList.drop (8 + p + cs.length))).toArray = w3 at *
          clear c72 f72 hsl n2 hco HA HSRC n1 HC
          have c72 := HW3.out.filled
          have f72 := HW3.out.free 72
          go_wp2
          go_roundw
          case rel =>
            refine ⟨k + ys.length, ?_, ?_, ?_, ?_, hK.then (HK3.out.setCell (Or.inl (by simp)) _)⟩
            · have := HLEN.out; omega
            · rw [← HDR.out, List.drop_length]
              exact BytesAt.empty _ _ _
            · exact fun x hx _ => HD1.out x hx HNE.out
            · rw [HF.out, List.take_length, show S = (S.fst, S.snd) from rfl, feed_short S.fst _ S.snd (by rw [← HPE.out]; omega)]
              refine ⟨rest.drop ys.length, ?_, by rw [List.length_append, ← HPE.out]; omega⟩
              have := HW3.out.putFilled ((p : Int) + ys.length)
              rw [HPE.out] at this
              have e : ((S.snd ++ ys).length : Int) = (S.snd.length : Int) + ys.length := by simp
              show HashAt _ b S.fst _ ((S.snd ++ ys).length : Int) L
              rw [e]
              first | exact this | (have h2 := HPE.out; subst h2; exact this)
          case measure => simp [lenOf]; omega
        · have m6 : ys.length < cap' := by omega
          obtain ⟨cs, hcs⟩ : ∃ cs, cs = ys.map (Value.int .u8) := ⟨_, rfl⟩
          have HCS : Hid (cs = ys.map (Value.int .u8)) := hcs
          have hcl : cs.length = ys.length := by rw [hcs, List.length_map]
          have hco : ∀ v ∈ cs, v.oneCell' = true := by rw [hcs]; exact map_oneCell _
          have HSRC : Hid (∀ j v, cs[j]? = some v → wr.cell? ((⟨q, off, none⟩ : Addr).add j) = some v) := by
            intro j u hu
            rw [hcs] at hu
            simp only [List.getElem?_map, Option.map_eq_some_iff] at hu
            obtain ⟨z, hz, rfl⟩ := hu
            have hj : j < ys.length := (List.getElem?_eq_some_iff.1 hz).1
            have := HC.out j (by omega)
            rw [hz] at this
            rw [Addr.add_mid]
            exact this
          have n1 : Hid (cs.length = Nat.min ys.length (64 - p)) := by rw [hcl]; exact (Nat.min_eq_left (by omega)).symm
          have n2 : 8 + p + cs.length ≤ (hashC S.fst (S.snd ++ rest) (↑p) L).size := by rw [hashC_size HA.out.words HA.out.bytes]; omega
          have hsl := fun W => slice_block b p hp W
          have HW3 : Hid (HashAt (wr.drew.setRow b ((hashC S.fst (S.snd ++ rest) (↑p) L).toList.take (8 + p) ++ (cs ++ (hashC S.fst (S.snd ++ rest) (↑p) L).toList.drop (8 + p + cs.length))).toArray) b S.fst ((S.snd ++ ys) ++ rest.drop ys.length) p L) := HA.out.drew.piece HPE.out (by omega) HO.out cs hcs
          have HK3 : Hid (Kept [b] wr (wr.drew.setRow b ((hashC S.fst (S.snd ++ rest) (↑p) L).toList.take (8 + p) ++ (cs ++ (hashC S.fst (S.snd ++ rest) (↑p) L).toList.drop (8 + p + cs.length))).toArray)) := (Kept.refl [b] wr).drew.setRow1 (by simp) _
          clear hcs hcl
          go_wp2
          go_region_law ((refine step_copy_row rfl (.tmp 33) (.tmp 36) 25 25 rfl 5 Tryd.underlying25 Tryd.size_u8 b (8 + p) (64 - p) (64 - p) ⟨q, off, none⟩ ys.length cap' rfl rfl _ 95 HA.out.cells cs n1.out HSRC.out n2 hco ?_))
          generalize wr.drew.setRow b ((hashC S.fst (S.snd ++ rest) (↑p) L).toList.take (8 + p) ++ (cs ++ (hashC S.fst (S.snd ++ rest) (↑p) L).toList.drop (8 + p + cs.length))).toArray = w3 at *
          clear c72 f72 hsl n2 hco HA HSRC n1 HC
          have c72 := HW3.out.filled
          have f72 := HW3.out.free 72
          go_wp2
          go_roundw
          case rel =>
            refine ⟨k + ys.length, ?_, ?_, ?_, ?_, hK.then (HK3.out.setCell (Or.inl (by simp)) _)⟩
            · have := HLEN.out; omega
            · rw [← HDR.out, List.drop_length]
              exact BytesAt.empty _ _ _
            · exact fun x hx _ => HD1.out x hx HNE.out
            · rw [HF.out, List.take_length, show S = (S.fst, S.snd) from rfl, feed_short S.fst _ S.snd (by rw [← HPE.out]; omega)]
              refine ⟨rest.drop ys.length, ?_, by rw [List.length_append, ← HPE.out]; omega⟩
              have := HW3.out.putFilled ((p : Int) + ys.length)
              rw [HPE.out] at this
              have e : ((S.snd ++ ys).length : Int) = (S.snd.length : Int) + ys.length := by simp
              show HashAt _ b S.fst _ ((S.snd ++ ys).length : Int) L
              rw [e]
              first | exact this | (have h2 := HPE.out; subst h2; exact this)
          case measure => simp [lenOf]; omega
end Go.Proofs.YtlljiipmkjjhhaaDoor
