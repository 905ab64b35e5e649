/-
  WALKS: (*code.Writer).U8, U64 and Bytes, for every Writer.
  WALK: (*code.Writer).U32, for every Writer.
  WALK of satchelref1.Text.
-/
import Derived.Test.YtmambfdfkobjgaaWFixed
import Derived.Test.YtmambfdfkobjgaaWVar
import Derived.Test.YtmambfdfkobjgaaPlain2
import Derived.Test.YtmambfdfkobjgaaOwn
import Derived.Maps.AppendAt
namespace Go.Proofs.Ytmambfdfkobjgaa
open Go.RowKit

/-- As 'BytesAt.kept': of an empty slice nothing is asked. -/
theorem BytesAt.keep {S : List Nat} {w w' : World} {v : Value} {ys : List Int} (h : BytesAt w v ys) (hk : Kept S w w') (hn : ys ≠ [] → ∀ b, blkOf v = some b → b ∉ S) : BytesAt w' v ys := by
  obtain ⟨ao, cap, rfl, hc, hnil, hcell⟩ := h
  refine ⟨ao, cap, rfl, hc, hnil, fun hne => ?_⟩
  obtain ⟨b, off, rfl, hh⟩ := hcell hne
  exact ⟨b, off, rfl, fun i u hu => hk.cell (hh i u hu) (hn hne b rfl)⟩

set_option maxHeartbeats 400000 in
theorem WU8_any {w : World} {wb B : Nat} {zs : List Int} {S : List Nat} (h : WAt w wb B zs S) (hBw : B ≤ w.heap.size) (n : Int) (hn0 : 0 ≤ n) (hn1 : n ≤ 255) (hm : zs.length + 8 ≤ 140737488355328) :
    Calls Try.prog 26 #[.pointer (some ⟨wb, 0, none⟩), .int .u8 n] w fun e w' => e = .returned (.tuple #[]) ∧ Wrote w w' wb B (zs ++ fixedB n 1) S := by
  have hcall := WFixed_any h hBw n 1 (by decide) hm
  clear h
  go_enter Try.func26, Try.ntmps26
  go_wp2_with (go_at_call 55; refine hcall.mono ?_; rintro e w1 ⟨rfl, hw⟩)
  go_end0
  exact ⟨rfl, hw⟩

set_option maxHeartbeats 400000 in
theorem WU64_any {w : World} {wb B : Nat} {zs : List Int} {S : List Nat} (h : WAt w wb B zs S) (hBw : B ≤ w.heap.size) (n : Int) (hm : zs.length + 8 ≤ 140737488355328) :
    Calls Try.prog 30 #[.pointer (some ⟨wb, 0, none⟩), .int .u64 n] w fun e w' => e = .returned (.tuple #[]) ∧ Wrote w w' wb B (zs ++ fixedB n 8) S := by
  have hcall := WFixed_any h hBw n 8 (by decide) hm
  clear h
  go_enter Try.func30, Try.ntmps30
  go_wp2_with (go_at_call 55; refine hcall.mono ?_; rintro e w1 ⟨rfl, hw⟩)
  go_end0
  exact ⟨rfl, hw⟩

set_option maxHeartbeats 400000 in
theorem WBytes_any {w : World} {wb B : Nat} {zs : List Int} {S : List Nat} (h : WAt w wb B zs S) (hBw : B ≤ w.heap.size) (v : Value) (ys : List Int) (hv : BytesAt w v ys) (hd : ys ≠ [] → ∀ b, blkOf v = some b → b ∉ S) (hoy : Octs ys)
    (hm : zs.length + 10 + ys.length ≤ 140737488355328) :
    Calls Try.prog 34 #[.pointer (some ⟨wb, 0, none⟩), v] w fun e w' => e = .returned (.tuple #[]) ∧ Wrote w w' wb B (zs ++ varB ys.length ++ ys) S := by
  have hvl := varB_len (ys.length : Int) (by omega) (by omega)
  have hcall := WVar_any h hBw (ys.length : Int) (by omega) (by omega) (by omega)
  have hraw : ∀ w1, Wrote w w1 wb B (zs ++ varB ys.length) S → Calls Try.prog 36 #[.pointer (some ⟨wb, 0, none⟩), v] w1 fun e w' => e = .returned (.tuple #[]) ∧ Wrote w w' wb B (zs ++ varB ys.length ++ ys) S := by
    rintro w1 ⟨S1, hw1, hk1, hs1⟩
    refine (WRaw_any hw1 (Nat.le_trans hBw hk1.size) v ys (hv.keep hk1 hd) hoy (by simp; omega)).mono ?_
    rintro e w2 ⟨he, hw2⟩
    exact ⟨he, Wrote.trans hk1 hs1 hw2⟩
  obtain ⟨ao, cap, rfl, _⟩ := hv
  have HW : Hid _ := hraw
  clear h hd hraw
  go_enter Try.func34, Try.ntmps34
  go_wp2_with (first | (go_at_call 32; refine hcall.mono ?_; rintro e w1 ⟨rfl, hw⟩) | (go_at_call 36; refine (HW.out _ hw).mono ?_; rintro e w2 ⟨rfl, hw2⟩))
  go_end0
  exact ⟨rfl, hw2⟩

end Go.Proofs.Ytmambfdfkobjgaa

namespace Go.Proofs.Ytmambfdfkobjgaa
open Go.RowKit

set_option maxHeartbeats 400000 in
theorem WU32_any {w : World} {wb B : Nat} {zs : List Int} {S : List Nat} (h : WAt w wb B zs S) (hBw : B ≤ w.heap.size) (n : Int) (hn0 : 0 ≤ n) (hn1 : n ≤ 4294967295) (hm : zs.length + 8 ≤ 140737488355328) :
    Calls Try.prog 28 #[.pointer (some ⟨wb, 0, none⟩), .int .u32 n] w fun e w' => e = .returned (.tuple #[]) ∧ Wrote w w' wb B (zs ++ fixedB n 4) S := by
  have hcall := WFixed_any h hBw n 4 (by decide) hm
  clear h
  go_enter Try.func28, Try.ntmps28
  go_wp2_with (go_at_call 55; refine hcall.mono ?_; rintro e w1 ⟨rfl, hw⟩)
  go_end0
  exact ⟨rfl, hw⟩

end Go.Proofs.Ytmambfdfkobjgaa

namespace Go.Proofs.Ytmambfdfkobjgaa
open Go.RowKit

set_option maxHeartbeats 1000000 in
/-- satchelref1.Text: the length's shortest form, then the bytes, in new memory. -/
theorem RText_any (v : Value) (xs : List Int) (w : World) (h : BytesAt w v xs) (hm : xs.length ≤ 140737488351232) :
    Calls Try.prog 35 #[v] w fun e w' => ∃ u, e = .returned u ∧ OwnB w' w.heap.size u (varB xs.length ++ xs) ∧ Kept [] w w' := by
  obtain ⟨i0, hi, hz0, hz1, hz2⟩ := info_parts Try.info_u8
  have hmx : maxLen = 9223372036854775807 := rfl
  have hvar := RVar_any _ (xs.length : Int) w (by omega) (by omega) (Nat.le_refl _)
  have hvl := varB_len (xs.length : Int) (by omega) (by omega)
  have hwr : IntKind.u64.wrap (xs.length : Int) = xs.length := by rw [IntKind.wrap_u64]; omega
  obtain ⟨ao, cap, rfl, hc, hnil, hcell⟩ := h
  generalize hvs : varB (xs.length : Int) = vs at *
  clear hvs
  cases ao with
  | none =>
    obtain rfl : xs = [] := by
      by_cases hy : xs = []
      · exact hy
      · obtain ⟨b, off, hb, _⟩ := hcell hy; cases hb
    obtain rfl := hnil rfl
    clear hcell hnil
    go_enter Try.func35, Try.ntmps35
    go_wp2_with (first
      | (go_at_call 33; refine hvar.mono ?_; rintro e w1 ⟨u, rfl, hu, hk⟩; have HU : Hid (OwnB w1 w.heap.size u vs) := hu; clear hu)
      | (at_builtin; refine wpList_append_own_none rfl (.tmp 8) (.tmp 9) 22 rfl w.heap.size 5 i0 1 Try.underlying22 hi u vs.length (vs.map (Value.int .u8)) rfl HU.out rfl ?_))
    go_ret
    exact ⟨u, rfl, by rw [List.append_nil]; exact HU.out, hk⟩
  | some a =>
    have HN : Hid (∀ w1, Kept [] w w1 → ∀ j u, (xs.map (Value.int .u8))[j]? = some u → w1.cell? (a.add j) = some u) := by
      intro w1 hk j u hu
      simp only [List.getElem?_map, Option.map_eq_some_iff] at hu
      obtain ⟨z, hz, rfl⟩ := hu
      obtain ⟨b, off, hb, hh⟩ := hcell (by rintro rfl; simp at hz)
      cases hb
      rw [Addr.add_mid]
      exact hk.cell (hh j z hz) (by simp)
    clear hcell hnil
    obtain ⟨cs, hcs⟩ : ∃ cs, cs = xs.map (Value.int .u8) := ⟨_, rfl⟩
    rw [← hcs] at HN
    have hcl : cs.length = xs.length * 1 := by rw [hcs]; simp
    have hco : ∀ u ∈ cs, u.oneCell' = true := by rw [hcs]; exact map_oneCell _
    have HC : Hid (cs = xs.map (Value.int .u8)) := hcs
    clear hcs
    go_enter Try.func35, Try.ntmps35
    go_wp2_with (first
      | (go_at_call 33; refine hvar.mono ?_; rintro e w1 ⟨u, rfl, hu, hk⟩; have HU : Hid (OwnB w1 w.heap.size u vs) := hu; have hnews := HN.out w1 hk; have HK : Hid (Kept [] w w1) := hk; clear hu hk)
      | (at_builtin; refine wpList_append_own_at _ rfl (.tmp 8) (.tmp 9) 22 rfl w.heap.size 5 i0 (.int .u8 0) 1 1 Try.underlying22 hi hz0 hz1 hz2 rfl (by decide) u vs.length (vs.map (Value.int .u8)) rfl HU.out a xs.length cap cs rfl hcl hnews hco (by omega) (by omega) HK.out.size ?_; intro v' w2 ho' hgr hnl hat))
    go_ret
    refine ⟨v', rfl, ?_, HK.out.grown hgr (fun k hk => Or.inr (World.ownsRow.lt HU.out k hk).1)⟩
    unfold OwnB
    rw [List.length_append, List.map_append, ← HC.out]
    exact ho'
end Go.Proofs.Ytmambfdfkobjgaa
