/-
  WALKS: satchellaw1.Into and Other.
-/
import Derived.Test.YtldhbcppnoldiaaPlain2
import Derived.Test.YtldhbcppnoldiaaWriter
import Derived.Maps.AppendAt
namespace Go.Proofs.Ytldhbcppnoldiaa
open Go.RowKit

set_option maxHeartbeats 1000000 in
/-- Other bytes are laid into what was lent. -/
theorem Into_any {w : World} {B g cap : Nat} {ys zs : List Int} {v : Value} (h : Lent w B g cap ys) (hv : BytesAt w v zs) (hd : zs ≠ [] → ∀ b, blkOf v = some b → b ∉ [g]) (hl : ys.length = zs.length) (hm : zs.length ≤ 140737488351232) :
    Calls Try.prog 61 #[.slice (some ⟨g, 0, none⟩) ys.length cap, v] w fun e w' => e = .returned (.tuple #[]) ∧ Lent w' B g cap zs ∧ Kept [g] w w' := by
  have hr := h.room
  have HV : Hid (∀ wr, Kept [g] w wr → BytesAt wr v zs) := fun wr hk => hv.kept' hk hd
  obtain ⟨ao, cv, rfl, hcv, hnil, hcell⟩ := hv
  rw [hl]
  go_enter Try.func61, Try.ntmps61
  go_wp2
  go_loopw [4] (fun i wr => ∃ k : Nat, k ≤ zs.length ∧ i = .int .i64 k ∧ Hid (Lent wr B g cap (zs.take k ++ ys.drop k)) ∧ Kept [g] w wr) (fun i _ => zs.length - (intOf i).toNat)
  case atStart => exact ⟨0, Nat.zero_le _, rfl, (by have : Lent w B g cap (zs.take 0 ++ ys.drop 0) := (by simpa using h); exact this), Kept.refl _ _⟩
  case round =>
    clear h
    obtain ⟨k, hk, rfl, HL, hkw⟩ := hrel
    by_cases hlt : k < zs.length
    · have hmid : (zs.take k ++ ys.drop k).length = zs.length := by simp; omega
      have hcw := HV.out wr hkw
      obtain ⟨_, _, he, _, _, hcc⟩ := hcw
      injection he with e1 e2 e3
      subst e1 e3
      obtain ⟨b, off, rfl, hh⟩ := hcc (by rintro rfl; simp at hlt)
      have g1 := hh k (zs[k]?.getD 0) (by rw [List.getElem?_eq_getElem hlt]; rfl)
      have g2 := HL.out.cell k (by omega)
      have g3 := HL.out.frozen k
      have HS : Hid (Lent (wr.setCell ⟨g, k, none⟩ (.int .u8 (zs[k]?.getD 0))) B g cap (zs.take (k + 1) ++ ys.drop (k + 1))) := by
        have := HL.out.set k (by omega) (zs[k]?.getD 0)
        rwa [mid_set zs ys k hlt hl] at this
      clear hh hcc hcell HL
      generalize zs[k]?.getD 0 = z at *
      go_wp2
      go_roundw
      case rel => exact ⟨k + 1, by omega, by go_num, HS, hkw.setCell (Or.inl (by simp)) _⟩
      case measure => simp [intOf]; omega
    · clear hcell
      go_wp2
      go_end0
      refine ⟨rfl, ?_, hkw⟩
      have := HL.out
      rwa [List.take_of_length_le (by omega), List.drop_eq_nil_of_le (by omega), List.append_nil] at this

set_option maxRecDepth 100000 in
set_option maxHeartbeats 1000000 in
/-- Another list of the same length, in new memory. -/
theorem Other_any (v : Value) (xs : List Int) (w : World) (h : BytesAt w v xs) (hm : xs.length ≤ 140737488351232) (ho : Octs xs) :
    Calls Try.prog 60 #[v] w fun e w' => ∃ u zs, e = .returned u ∧ OwnB w' w.heap.size u zs ∧ zs.length = xs.length ∧ Octs zs ∧ Kept [] w w' := by
  obtain ⟨i0, hi, hz0, hz1, hz2⟩ := info_parts Try.info_u8
  have hmx : maxLen = 9223372036854775807 := rfl
  have HV : Hid (∀ wr, Kept [] w wr → (convert 22 9 v).run Try.prog wr = .ok (.string (strOfNums xs)) wr) := fun wr hk => (h.kept hk (fun _ _ => by simp)).conv
  obtain ⟨ao, cv, rfl, hcv, hnil, hcell⟩ := h
  go_enter Try.func60, Try.ntmps60
  go_wp2
  go_loopw [3, 4] (fun s3 s4 wr => ∃ (k : Nat) (zs : List Int), s4 = .int .i64 ((k : Int) - 1) ∧ zs.length + k = xs.length ∧ Hid (OwnB wr w.heap.size s3 zs) ∧ Octs zs ∧ Kept [] w wr) (fun _ s4 _ => (intOf s4 + 1).toNat)
  case atStart => exact ⟨xs.length, [], by go_num, by simp, World.ownsRow_nil _ _ _ _, fun u hu => by simp at hu, Kept.refl _ _⟩
  case round =>
    obtain ⟨k, zs, rfl, hlen, HO, hoz, hkw⟩ := hrel
    cases k with
    | zero =>
      have hc1 := HO.out.bytes.conv
      have hc2 := HV.out wr hkw
      have e0 : ((0 : Nat) : Int) - 1 = -1 := rfl
      rw [e0]
      by_cases hn : xs.length = 0
      · obtain ⟨ao3, cap3, rfl⟩ := own_shape HO.out
        have hzn : zs.length = 0 := by omega
        clear hcell
        go_wp2
        go_ret
        exact ⟨_, zs, rfl, HO.out, by omega, hoz, hkw⟩
      · obtain ⟨g, cap3, rfl, hg0, hg1, hg2, hg3⟩ := row_shape HO.out (by omega)
        rcases hb : ((strOfNums zs).toList == (strOfNums xs).toList) with _ | _
        · clear hcell
          go_wp2
          go_ret
          exact ⟨_, zs, rfl, HO.out, by omega, hoz, hkw⟩
        · obtain ⟨m, hm1⟩ : ∃ m, zs.length = m + 1 := ⟨zs.length - 1, by omega⟩
          have g1 := World.ownsRow.cellAt HO.out m (by omega)
          rw [List.getElem?_map, List.getElem?_eq_getElem (show m < zs.length by omega), Option.map_some] at g1
          have g2 := World.ownsRow.frozenAt HO.out m
          have hz := hoz zs[m] (List.getElem_mem _)
          generalize zs[m] = z at *
          have hx : bits .xor .u8 z 1 = ((z.toNat ^^^ 1 : Nat) : Int) := u8_xor z 1 (by omega) (by omega) (by decide) (by decide)
          have hx1 : z.toNat ^^^ 1 < 256 := Nat.xor_lt_two_pow (n := 8) (by omega) (by decide)
          generalize hyy : bits .xor .u8 z 1 = y at *
          have HS : Hid (OwnB (wr.setCell ⟨g, m, none⟩ (.int .u8 y)) w.heap.size (.slice (some ⟨g, 0, none⟩) zs.length cap3) (zs.set m y)) := by
            have h1 := (World.ownsRow.stored HO.out m (.int .u8 y)).1
            unfold OwnB
            rw [List.length_set, List.map_set]
            exact h1
          have HY : Hid (0 ≤ y ∧ y ≤ 255) := ⟨by omega, by omega⟩
          have hxl : xs.length = m + 1 := by omega
          have HX : Hid (xs.length = m + 1) := hxl
          have HM : Hid (zs.length = m + 1) := hm1
          rw [hm1] at hc1 HS hg2 ⊢
          rw [hxl] at hc2 ⊢
          have hm3 : m + 1 ≤ 140737488351232 := by omega
          clear hcell HO hx hx1 hz hlen hxl hm1 hn hm hcv
          go_wp2
          go_ret
          refine ⟨_, zs.set m y, rfl, HS.out, ?_, fun u hu => ?_, hkw.setCell (Or.inr hg0) _⟩
          · rw [HX.out]; rw [List.length_set]; exact HM.out
          rcases List.mem_or_eq_of_mem_set hu with h | h
          · exact hoz u h
          · rw [h]; exact HY.out
    | succ j =>
      have ej : ((j + 1 : Nat) : Int) - 1 = (j : Int) := by omega
      rw [ej]
      obtain ⟨b, off, rfl, hh⟩ := hcell (by rintro rfl; simp at hlen)
      have g1 := hkw.cell (hh j (xs[j]?.getD 0) (by rw [List.getElem?_eq_getElem (show j < xs.length by omega)]; rfl)) (by simp)
      have hz := octs_getD ho j
      have hsz := hkw.size
      have i1 : (j : Int) < (xs.length : Int) := by omega
      generalize xs[j]?.getD 0 = z at *
      have ho1 := HO.out.kept (w' := wr.alloc (.cells #[.int .u8 z] 5)) (T := []) ((Kept.refl _ _).alloc _) (by simp)
      clear hh hcell HV
      go_wp2_with (at_builtin; refine wpList_append_own_at _ rfl (.tmp 12) (.tmp 17) 22 rfl w.heap.size 5 i0 (.int .u8 0) 1 1 Try.underlying22 hi hz0 hz1 hz2 rfl (by decide) _ zs.length (zs.map (Value.int .u8)) rfl ho1 ⟨wr.heap.size, 0, none⟩ 1 1 [.int .u8 z] rfl rfl (cell_one_new _ _ _) (by simp [Value.oneCell']) (by omega) (by omega) (by simp; omega) ?_; intro v' w2 ho' hgr hnl hat)
      go_roundw
      case rel =>
        refine ⟨j, zs ++ [z], rfl, by simp; omega, ?_, ?_, (hkw.alloc _).grown hgr (fun k hk => Or.inr (World.ownsRow.lt ho1 k hk).1)⟩
        · have : OwnB w2 w.heap.size v' (zs ++ [z]) := by unfold OwnB; rw [List.length_append, List.map_append]; exact ho'
          exact this
        · intro u hu
          rcases List.mem_append.1 hu with h | h
          · exact hoz u h
          · simp at h; subst h; exact hz
      case measure => simp [intOf]

end Go.Proofs.Ytldhbcppnoldiaa
