/-
  WALK: satchellaw1.CodeTurns: what is written is read, item by item, with nothing left; without the last byte the last item is not.
-/
import Derived.Test.YtbflokiijfomeaaLays
import Derived.Test.YtbflokiijfomeaaBack
import Derived.Test.YtbflokiijfomeaaTurnsPlain
import Derived.Test.YtbflokiijfomeaaOneForm
namespace Go.Proofs.Ytbflokiijfomeaa
open Go.RowKit

theorem COp.Good.later {o : COp} {w w' : World} (h : COp.Good o w) (k : Kept [] w w') : COp.Good o w' :=
  ⟨h.kind0, h.kind1, h.which0, h.which1, h.m0, h.m1, h.n0, h.n1, h.at'.kept k (fun _ _ => by simp), h.oct, h.small⟩
theorem COp.Good.blk {o : COp} {w : World} (h : COp.Good o w) (hne : o.b ≠ []) : ∀ b, blkOf (.slice o.ao o.b.length o.cap) = some b → b < w.heap.size := by
  intro b hb
  rcases h.at'.parts with ⟨e, _⟩ | ⟨b', off, cap, e, _, hp, hcell⟩
  · exact absurd e hne
  · simp only [Value.slice.injEq] at e
    rw [e.1] at hb
    simp only [blkOf, Option.some.injEq] at hb
    subst hb
    exact World.block_lt_of_cell? w _ (hcell 0 hp)

/-- While it is written. -/
structure TW (w wr : World) (wb : Nat) (zs : List Int) (opsv : Value) : Prop where
  wt : ∃ S, WAt wr wb (w.heap.size + 1) zs S
  box : wr.cell? ⟨w.heap.size, 2, none⟩ = some opsv
  kept : Kept [] w wr
  size : w.heap.size + 1 ≤ wr.heap.size
theorem tw_step {w wr w2 : World} {wb : Nat} {zs us : List Int} {opsv : Value} (h : TW w wr wb zs opsv) {S : List Nat} (hW : WAt wr wb (w.heap.size + 1) zs S) (hb : Wrote wr w2 wb (w.heap.size + 1) us S) : TW w w2 wb us opsv := by
  obtain ⟨S', hS', k, hs⟩ := hb
  have hlt := hW.lt
  refine ⟨⟨S', hS'⟩, k.cell h.box ?_, h.kept.trans k ?_, Nat.le_trans h.size k.size⟩
  · intro hx; have := (hlt _ hx).1; dsimp only at this; omega
  · intro x hx; have := (hlt _ hx).1; exact Or.inr (by omega)
/-- While it is read. -/
structure TR (w wr : World) (r g q : Nat) (xs row : List Int) (pl f : Nat) (opsv : Value) : Prop where
  rd : Rdr wr r g xs pl f
  row' : wr.heap[q]? = some (.cells (row.map (Value.int .u8)).toArray 5 (0, 0))
  box : wr.cell? ⟨w.heap.size, 2, none⟩ = some opsv
  kept : Kept [] w wr
  lo : w.heap.size + 1 ≤ r
  ne : r ≠ q
theorem tr_step {w wr w2 : World} {r g q : Nat} {xs row : List Int} {pl f pl' f' : Nat} {opsv : Value} (h : TR w wr r g q xs row pl f opsv) (hr : Rdr w2 r g xs pl' f') (k : Kept [r] wr w2) : TR w w2 r g q xs row pl' f' opsv :=
  ⟨hr, k.heap h.row' (by simp; exact fun e => h.ne e.symm), k.cell h.box (by have := h.lo; simp; omega), h.kept.trans k (by have := h.lo; simp; omega), h.lo, h.ne⟩
theorem TR.later {w wr w2 : World} {r g q : Nat} {xs row : List Int} {pl f : Nat} {opsv : Value} (h : TR w wr r g q xs row pl f opsv) (k : Kept [] wr w2) : TR w w2 r g q xs row pl f opsv :=
  ⟨h.rd.kept k (by simp) (by simp), k.heap h.row' (by simp), k.cell h.box (by simp), h.kept.then k, h.lo, h.ne⟩

theorem sum_mem : ∀ (ops : List COp) (o : COp), o ∈ ops → o.b.length ≤ sumB ops := by
  intro ops
  induction ops with
  | nil => intro o ho; simp at ho
  | cons p ops ih =>
    intro o ho
    simp only [sumB, List.map_cons, List.sum_cons]
    rcases List.mem_cons.1 ho with rfl | h
    · omega
    · have := ih o h; simp only [sumB] at this; omega
theorem seven : fixedB 7 1 = [7] := by decide

set_option maxRecDepth 100000 in
set_option maxHeartbeats 4000000 in
theorem turns_A (w : World) (b2 off2 c2 : Nat) (ao0 ao1 ao2 : Option Addr) (l0 l1 c0 c1 : Nat) (ops : List COp) (hao : ops ≠ [] → ao2 = some ⟨b2, off2, none⟩)
    (hops : ∀ (i : Nat) (o : COp), ops[i]? = some o →
      w.cell? ⟨b2, off2 + i * 5, none⟩ = some (.int .i64 o.kind) ∧ w.cell? ⟨b2, off2 + i * 5 + 1, none⟩ = some (.int .i64 o.which) ∧ w.cell? ⟨b2, off2 + i * 5 + 2, none⟩ = some (.int .i64 o.m) ∧
      w.cell? ⟨b2, off2 + i * 5 + 3, none⟩ = some (.int .u64 o.n) ∧ w.cell? ⟨b2, off2 + i * 5 + 4, none⟩ = some (.slice o.ao o.b.length o.cap))
    (hg : ∀ o, o ∈ ops → COp.Good o w) (hsum : sumB ops ≤ 1048576) (T : Nat) (hT1 : T ≤ ops.length) (hT2 : T ≤ 400) (hT3 : ops.length ≤ T) :
    Calls Try.prog 6 #[.agg #[.slice ao0 l0 c0, .slice ao1 l1 c1, .slice ao2 ops.length c2]] w fun e w' => e = .returned (.bool true) ∧ Kept [] w w' := by
  have HEL : Hid (∀ k, k ≤ T → (encs ops k).length ≤ 4000 + sumB ops) := fun k hk => by have := encs_len ops hg k; omega
  have HOC : Hid (Octs (allW ops T)) := fun u hu => by
    rcases List.mem_cons.1 hu with rfl | hu
    · decide
    · exact encs_octs ops hg T u hu
  have HG : Hid (∀ o, o ∈ ops → COp.Good o w) := hg
  have HOPS : Hid (∀ (i : Nat) (o : COp), ops[i]? = some o →
      w.cell? ⟨b2, off2 + i * 5, none⟩ = some (.int .i64 o.kind) ∧ w.cell? ⟨b2, off2 + i * 5 + 1, none⟩ = some (.int .i64 o.which) ∧ w.cell? ⟨b2, off2 + i * 5 + 2, none⟩ = some (.int .i64 o.m) ∧
      w.cell? ⟨b2, off2 + i * 5 + 3, none⟩ = some (.int .u64 o.n) ∧ w.cell? ⟨b2, off2 + i * 5 + 4, none⟩ = some (.slice o.ao o.b.length o.cap)) := hops
  have HAO : Hid (ops ≠ [] → ao2 = some ⟨b2, off2, none⟩) := hao
  clear hg hops hao
  have hnew := New_any (w.alloc (.cells #[.slice ao0 l0 c0, .slice ao1 l1 c1, .slice ao2 ops.length c2] 26)) (w.heap.size + 1) (by rw [World.size_alloc]; exact Nat.le_refl _)
  rw [World.size_alloc] at hnew
  go_enter Try.func6, Try.ntmps6
  go_wp2_with (first
    | (go_at_call 17; refine hnew.mono ?_; rintro e w1 ⟨rfl, hW1, hk1⟩; have H8 := WU8_any hW1 (by have := hk1.size; rw [World.size_alloc] at this; exact this) 7 (by decide) (by decide) (by decide); have HW1 : Hid (WAt w1 (w.heap.size + 1) (w.heap.size + 1) [] [w.heap.size + 1]) := hW1; clear hW1)
    | (go_at_call 28; refine H8.mono ?_; rintro e w2 ⟨rfl, hW2⟩))
  have HTW : Hid (TW w w2 (w.heap.size + 1) (7 :: encs ops 0) (.slice ao2 ops.length c2)) := by
    have h1 : TW w w1 (w.heap.size + 1) [] (.slice ao2 ops.length c2) := ⟨⟨_, HW1.out⟩, by rw [hk1.last.2.1]; rfl, ((Kept.refl [] w).alloc _).then hk1, by have := hk1.size; rw [World.size_alloc] at this; exact this⟩
    have := tw_step h1 HW1.out hW2
    rw [seven] at this
    rw [encs_zero]
    exact this
  clear hnew H8 HW1 hk1 hW2
  go_loopw [4] (fun i wr => ∃ k : Nat, k ≤ T ∧ i = .int .i64 k ∧ Hid (TW w wr (w.heap.size + 1) (7 :: encs ops k) (.slice ao2 ops.length c2))) (fun i _ => T - (intOf i).toNat)
  case atStart => exact ⟨0, Nat.zero_le _, rfl, HTW⟩
  case round =>
    clear HTW
    obtain ⟨k, hkT, rfl, HTW⟩ := hrel
    have hbox := HTW.out.box
    by_cases hlt : k < T
    · obtain rfl := HAO.out (by rintro rfl; simp at hT1; omega)
      obtain ⟨o, hko⟩ : ∃ o, ops[k]? = some o := ⟨_, List.getElem?_eq_getElem (by omega)⟩
      have hgo := HG.out o (List.mem_of_getElem? hko)
      have KW := HTW.out.kept
      obtain ⟨q0, q1, q2, q3, q4⟩ := HOPS.out k o hko
      replace q0 := KW.cell q0 (by simp)
      replace q1 := KW.cell q1 (by simp)
      replace q2 := KW.cell q2 (by simp)
      replace q3 := KW.cell q3 (by simp)
      replace q4 := KW.cell q4 (by simp)
      obtain ⟨S, hW⟩ := HTW.out.wt
      have hl1 := HEL.out k hkT
      have hl2 : o.b.length ≤ sumB ops := sum_mem ops o (List.mem_of_getElem? hko)
      have hlay := lays_any hW HTW.out.size o (hgo.later KW) (fun hne b hb hS => by have := hgo.blk hne b hb; have := (hW.lt b hS).1; omega) (by simp; omega)
      have hnext : ∀ w2, Wrote wr w2 (w.heap.size + 1) (w.heap.size + 1) (7 :: encs ops k ++ encW o) S → TW w w2 (w.heap.size + 1) (7 :: encs ops (k + 1)) (.slice (some ⟨b2, off2, none⟩) ops.length c2) := fun w2 hw => by
        have := tw_step HTW.out hW hw
        rw [encs_succ ops k o hko]
        exact this
      have HN : Hid _ := hnext
      clear hko hgo KW hl1 hl2 hnext hW
      go_wp2_with (go_at_call 29; refine hlay.mono ?_; rintro e w2 ⟨rfl, hw2⟩)
      go_roundw
      case rel => exact ⟨k + 1, by omega, by go_num, HN.out _ hw2⟩
      case measure => simp [intOf]; omega
    · obtain rfl : k = T := by omega
      obtain ⟨wA, hwA⟩ : ∃ wA, wA = wr := ⟨_, rfl⟩
      subst hwA
      obtain ⟨N, hN⟩ : ∃ N, (allW ops k).length = N := ⟨_, rfl⟩
      have hNl : N ≤ 4001 + sumB ops := by have := HEL.out k (Nat.le_refl _); rw [← hN]; simp [allW]; omega
      have hN1 : 1 ≤ N := by rw [← hN]; simp [allW]
      have HN : Hid ((allW ops k).length = N) := hN
      have hout : Calls Try.prog 24 #[.pointer (some ⟨w.heap.size + 1, 0, none⟩)] wA fun e w' => e = .returned (.slice (some ⟨wA.heap.size, 0, none⟩) N N) ∧ w'.heap[wA.heap.size]? = some (.cells ((allW ops k).map (Value.int .u8)).toArray 5 (0, 0)) ∧ Kept [] wA w' := by
        obtain ⟨S, hW⟩ := HTW.out.wt
        have := WOut_any hW (by have e : (7 :: encs ops k).length = N := hN; rw [e]; omega)
        rw [← hN]; exact this
      have hlen4 : ∀ w4, Kept [] wA w4 → LenIs w4 (w.heap.size + 1) N := fun w4 k4 => by
        obtain ⟨S, hW⟩ := HTW.out.wt
        exact ⟨_, _, _, hW.kept k4 (by simp), hN⟩
      have HL4 : Hid (∀ w4, Kept [] wA w4 → LenIs w4 (w.heap.size + 1) N) := hlen4
      have h7 : takeL (allW ops k) 0 0 0 1 0 = ⟨7, [], 1, 0⟩ := back_fixed (allW ops k) 0 1 7 (encs ops k) (by decide) (by decide) (by rw [seven]; rfl)
      have H7 : Hid (takeL (allW ops k) 0 0 0 1 0 = ⟨7, [], 1, 0⟩) := h7
      clear hN hlen4 h7
      have hn0 : ((N : Int) == 0) = false := beq_eq_false_iff_ne.2 (by omega)
      go_wp2_with (first
        | (go_at_call 24; refine hout.mono ?_; rintro e w3 ⟨rfl, hq, hk3⟩; have hrd := Read_any _ (allW ops k) w3 (bytes_row' HN.out hq) (by rw [HN.out]; omega) HOC.out; have HQ : Hid (w3.heap[wA.heap.size]? = some (.cells ((allW ops k).map (Value.int .u8)).toArray 5 (0, 0))) := hq; clear hq)
        | (go_at_call 8; refine hrd.mono ?_; rintro e w4 ⟨r, g, rfl, R4, hk4, hr4, hg4⟩; have L4 := HL4.out w4 (hk3.then hk4); have hu8 := U8_any R4 ⟨7, [], 1, 0⟩ H7.out.symm; have HR4 : Hid (Rdr w4 r g (allW ops k) 0 0) := R4; clear R4)
        | (go_at_call 27; refine (len_of (by assumption)).mono ?_; rintro e w9 ⟨rfl, hw9⟩; subst w9)
        | (go_at_call 30; refine hu8.mono ?_; rintro e w5 ⟨rfl, R5, hk5⟩))
      have hqlt := lt_of_block HQ.out
      have hk34 : Kept [] wA w4 := hk3.then hk4
      have HTR : Hid (TR w w5 r g wA.heap.size (allW ops k) (allW ops k) (1 + (encs ops 0).length) 0 (.slice ao2 ops.length c2)) := by
        have h4 : TR w w4 r g wA.heap.size (allW ops k) (allW ops k) 0 0 (.slice ao2 ops.length c2) := ⟨HR4.out, hk4.heap HQ.out (by simp), hk34.cell hbox (by simp), HTW.out.kept.then hk34, by have := HTW.out.size; have := hk3.size; omega, by omega⟩
        have := tr_step h4 R5 hk5
        rw [encs_zero]
        exact this
      clear hout hrd hu8 HR4 R5 hk5 hk34 hk3 hk4 L4 HQ HL4 HTW hbox H7
      go_loopw [7] (fun i wr => ∃ j : Nat, j ≤ k ∧ i = .int .i64 j ∧ Hid (TR w wr r g wA.heap.size (allW ops k) (allW ops k) (1 + (encs ops j).length) 0 (.slice ao2 ops.length c2))) (fun i _ => k - (intOf i).toNat)
      case atStart => exact ⟨0, Nat.zero_le _, rfl, HTR⟩
      case round =>
        clear HTR
        obtain ⟨j, hjk, rfl, HTR⟩ := hrel
        have hbox := HTR.out.box
        by_cases hjl : j < k
        · obtain rfl := HAO.out (by rintro rfl; simp at hT1; omega)
          obtain ⟨o, hko⟩ : ∃ o, ops[j]? = some o := ⟨_, List.getElem?_eq_getElem (by omega)⟩
          have hgo := HG.out o (List.mem_of_getElem? hko)
          have KW := HTR.out.kept
          obtain ⟨q0, q1, q2, q3, q4⟩ := HOPS.out j o hko
          replace q0 := KW.cell q0 (by simp)
          replace q1 := KW.cell q1 (by simp)
          replace q2 := KW.cell q2 (by simp)
          replace q3 := KW.cell q3 (by simp)
          replace q4 := KW.cell q4 (by simp)
          obtain ⟨tl, hd, hl⟩ := allW_drop ops k j o hko hjl
          have hrb := read_back (allW ops k) _ o tl hgo.n0 hgo.n1 hgo.small hd
          have hlo := HTR.out.lo
          have hbk := back_any HTR.out.rd o (hgo.later KW) (fun hne b hb => by have := hgo.blk hne b hb; simp; omega)
          rw [hrb] at hbk
          have hen : 1 + (encs ops j).length + (encW o).length = 1 + (encs ops (j + 1)).length := by rw [encs_succ ops j o hko]; simp; omega
          have hstep : ∀ (e : Ending) w', BackTo wr w' r g (allW ops k) ⟨wantN o, wantT o, 1 + (encs ops j).length + (encW o).length, 0⟩ o e → e = .returned (.bool true) ∧ Rdr w' r g (allW ops k) (1 + (encs ops (j + 1)).length) 0 ∧ TR w w' r g wA.heap.size (allW ops k) (allW ops k) (1 + (encs ops (j + 1)).length) 0 (.slice (some ⟨b2, off2, none⟩) ops.length c2) := by
            rintro e w' ⟨res, he, hres, hr, hkp⟩
            dsimp only at hr
            rw [hen] at hr
            rw [hres rfl rfl] at he
            exact ⟨he, hr, tr_step HTR.out hr hkp⟩
          have hbk2 := hbk.mono hstep
          clear hbk hstep hko hgo KW hd hl hrb hlo hen
          go_wp2_with (first
            | (go_at_call 31; refine hbk2.mono ?_; rintro e w6 ⟨rfl, R6, hT6⟩; have HT6 : Hid (TR w w6 r g wA.heap.size (allW ops k) (allW ops k) (1 + (encs ops (j + 1)).length) 0 (.slice (some ⟨b2, off2, none⟩) ops.length c2)) := hT6; clear hT6)
            | (go_at_call 11; refine (Fault_any (by assumption) (by decide)).mono ?_; rintro e w9 ⟨rfl, hw9⟩; subst w9)
            | (go_at_call 10; refine (num_any _ _).mono ?_; rintro e w9 ⟨rfl, hw9⟩; subst w9))
          go_roundw
          case rel => exact ⟨j + 1, by omega, by go_num, HT6⟩
          case measure => simp [intOf]; omega
        · obtain rfl : j = k := by omega
          obtain ⟨wB, hwB⟩ : ∃ wB, wB = wr := ⟨_, rfl⟩
          subst hwB
          have hNj : 1 + (encs ops j).length = N := by rw [← HN.out]; simp [allW]; omega
          have R := HTR.out.rd
          rw [hNj] at R
          have hend := End_any R (by decide)
          rw [if_neg (by decide), if_neg (by rw [HN.out]; omega)] at hend
          have hRn : ∀ n, Rdr (wB.drewN n) r g (allW ops j) N 0 := fun n => R.kept (S := []) ((Kept.refl _ _).drewN n) (by simp) (by simp)
          have hleft : ∀ n, Calls Try.prog 15 #[.pointer (some ⟨r, 0, none⟩)] (wB.drewN n) fun e w' => e = .returned (.int .i64 0) ∧ ∃ m, w' = (wB.drewN n).drewN m := fun n => (Left_any (hRn n)).mono fun e w' ⟨he, hw⟩ => ⟨by rw [he, HN.out]; simp, hw⟩
          have hrow : ∀ n, BytesAt (wB.drewN n) (.slice (some ⟨wA.heap.size, 0, none⟩) (N - 1) N) ((allW ops j).take (N - 1)) := fun n => by
            have := (bytes_row' HN.out (((Kept.refl [] wB).drewN n).heap HTR.out.row' (by simp)))
            have h2 := BytesAt.head (ys := allW ops j) (by rw [HN.out]; exact this) (N - 1) (by rw [HN.out]; omega)
            exact h2
          have hl1 : ((allW ops j).take (N - 1)).length = N - 1 := by rw [List.length_take, HN.out]; omega
          have hread : ∀ n, Calls Try.prog 8 #[.slice (some ⟨wA.heap.size, 0, none⟩) (N - 1) N] (wB.drewN n) fun e w' => ∃ r2 g2, e = .returned (.pointer (some ⟨r2, 0, none⟩)) ∧ TR w w' r2 g2 wA.heap.size ((allW ops j).take (N - 1)) (allW ops j) 0 0 (.slice ao2 ops.length c2) := fun n =>
            (Read_any _ _ _ (hrow n) (by rw [hl1]; omega) (octs_take HOC.out _)).mono fun e w' ⟨r2, g2, he, hR, hk, h1, h2⟩ => by
              have hT := HTR.out.later ((Kept.refl [] wB).drewN n)
              have hq := lt_of_block HTR.out.row'
              have hlo := HTR.out.lo
              have hrl := lt_of_block HTR.out.rd.blk
              refine ⟨r2, g2, he, hR, hk.heap hT.row' (by simp), hk.cell hT.box (by simp), hT.kept.then hk, ?_, ?_⟩
              · have : wB.heap.size ≤ r2 := h1; omega
              · have : wB.heap.size ≤ r2 := h1; omega
          have HLF : Hid (∀ n, Calls Try.prog 15 #[.pointer (some ⟨r, 0, none⟩)] (wB.drewN n) fun e w' => e = .returned (.int .i64 0) ∧ ∃ m, w' = (wB.drewN n).drewN m) := hleft
          have HRD : Hid (∀ n, Calls Try.prog 8 #[.slice (some ⟨wA.heap.size, 0, none⟩) (N - 1) N] (wB.drewN n) fun e w' => ∃ r2 g2, e = .returned (.pointer (some ⟨r2, 0, none⟩)) ∧ TR w w' r2 g2 wA.heap.size ((allW ops j).take (N - 1)) (allW ops j) 0 0 (.slice ao2 ops.length c2)) := hread
          have HRN : Hid (∀ n, Rdr (wB.drewN n) r g (allW ops j) N 0) := hRn
          have HL1 : Hid (((allW ops j).take (N - 1)).length = N - 1) := hl1
          clear hleft hread hRn hrow R hNj hl1
          have hsl := fun wx => slice_head (P := Try.prog) wx 22 (some ⟨wA.heap.size, 0, none⟩) N N (N - 1) Try.elem_bytes (Try.size_elem wx) (by omega)
          rw [show ((N - 1 : Nat) : Int) = (N : Int) - 1 by omega] at hsl
          go_wp2_with (first
            | (go_at_call 14; refine hend.mono ?_; rintro e w9 ⟨rfl, n9, rfl⟩)
            | (go_at_call 10; refine (num_any _ _).mono ?_; rintro e w9 ⟨rfl, hw9⟩; subst w9)
            | (go_at_call 15; refine (HLF.out _).mono ?_; rintro e w9 ⟨rfl, n8, rfl⟩)
            | (go_at_call 12; refine (At_any (HRN.out _)).mono ?_; rintro e w9 ⟨rfl, hw9⟩; subst w9)
            | (go_at_call 8; refine (HRD.out _).mono ?_; rintro e w7 ⟨r2, g2, rfl, hT7⟩; have hu8 := U8_any hT7.rd _ rfl; have HT7 : Hid (TR w w7 r2 g2 wA.heap.size ((allW ops j).take (N - 1)) (allW ops j) 0 0 (.slice ao2 ops.length c2)) := hT7; clear hT7)
            | (go_at_call 30; refine hu8.mono ?_; rintro e w8 ⟨rfl, R8, hk8⟩))
          have eN : (allW ops j).take (N - 1) = (allW ops j).take ((allW ops j).length - 1) := by rw [HN.out]
          have hT8 := tr_step HT7.out R8 hk8
          rw [eN] at hT8
          have HC0 : Hid (∃ pl f, TR w w8 r2 g2 wA.heap.size ((allW ops j).take ((allW ops j).length - 1)) (allW ops j) pl f (.slice ao2 ops.length c2) ∧ Cut ops j 0 pl f) := ⟨_, _, hT8, cut_start ops j⟩
          clear hu8 R8 hk8 HT7 hT8 eN HTR hbox hend HLF HRD HRN hsl
          go_loopw [9] (fun i wr => ∃ m : Nat, m ≤ j ∧ i = .int .i64 m ∧ Hid (∃ pl f, TR w wr r2 g2 wA.heap.size ((allW ops j).take ((allW ops j).length - 1)) (allW ops j) pl f (.slice ao2 ops.length c2) ∧ Cut ops j m pl f)) (fun i _ => j - (intOf i).toNat)
          case atStart => exact ⟨0, Nat.zero_le _, rfl, HC0⟩
          case round =>
            clear HC0
            obtain ⟨m, hmj, rfl, HC⟩ := hrel
            obtain ⟨pl, f, hTR, hCut⟩ := HC.out
            clear HC
            have hbox := hTR.box
            by_cases hml : m < j
            · obtain rfl := HAO.out (by rintro rfl; simp at hT1; omega)
              obtain ⟨o, hko⟩ : ∃ o, ops[m]? = some o := ⟨_, List.getElem?_eq_getElem (by omega)⟩
              have hgo := HG.out o (List.mem_of_getElem? hko)
              have KW := hTR.kept
              obtain ⟨q0, q1, q2, q3, q4⟩ := HOPS.out m o hko
              replace q0 := KW.cell q0 (by simp)
              replace q1 := KW.cell q1 (by simp)
              replace q2 := KW.cell q2 (by simp)
              replace q3 := KW.cell q3 (by simp)
              replace q4 := KW.cell q4 (by simp)
              have hlo := hTR.lo
              have hbk := back_any hTR.rd o (hgo.later KW) (fun hne b hb => by have := hgo.blk hne b hb; simp; omega)
              have hcs := cut_step ops j m pl f o hko hml hgo hCut
              have hbk2 : Calls Try.prog 31 #[.pointer (some ⟨r2, 0, none⟩), .agg #[.int .i64 o.kind, .int .i64 o.which, .int .i64 o.m, .int .u64 o.n, .slice o.ao o.b.length o.cap]] wr fun e w' => ∃ res, e = .returned (.bool res) ∧ Hid (∃ pl f, TR w w' r2 g2 wA.heap.size ((allW ops j).take ((allW ops j).length - 1)) (allW ops j) pl f (.slice (some ⟨b2, off2, none⟩) ops.length c2) ∧ Cut ops j (m + 1) pl f) :=
                hbk.mono fun e w' ⟨res, he, _, hr, hk⟩ => ⟨res, he, _, _, tr_step hTR hr hk, hcs⟩
              clear hbk hcs hko hgo KW hlo hTR hCut
              go_wp2_with (go_at_call 31; refine hbk2.mono ?_; rintro e w6 ⟨res, rfl, HC6⟩)
              go_roundw
              case rel => exact ⟨m + 1, by omega, by go_num, HC6⟩
              case measure => simp [intOf]; omega
            · obtain rfl : m = j := by omega
              obtain rfl := cut_end ops m pl f hCut
              have R9 := hTR.rd
              have hend9 := End_any R9 (by decide)
              rw [if_pos (by decide)] at hend9
              have HK9 : Hid (∀ n, Kept [] w (wr.drewN n)) := fun n => hTR.kept.drewN n
              clear hTR hCut
              go_wp2_with (first
                | (go_at_call 11; refine (Fault_any (by assumption) (by decide)).mono ?_; rintro e w9 ⟨rfl, hw9⟩; subst w9)
                | (go_at_call 10; refine (num_any _ _).mono ?_; rintro e w9 ⟨rfl, hw9⟩; subst w9)
                | (go_at_call 14; refine hend9.mono ?_; rintro e w9 ⟨rfl, n9, rfl⟩))
              go_ret
              exact ⟨rfl, HK9.out _⟩


set_option maxRecDepth 100000 in
set_option maxHeartbeats 4000000 in
theorem turns_B (w : World) (b2 off2 c2 : Nat) (ao0 ao1 ao2 : Option Addr) (l0 l1 c0 c1 : Nat) (ops : List COp) (hao : ops ≠ [] → ao2 = some ⟨b2, off2, none⟩)
    (hops : ∀ (i : Nat) (o : COp), ops[i]? = some o →
      w.cell? ⟨b2, off2 + i * 5, none⟩ = some (.int .i64 o.kind) ∧ w.cell? ⟨b2, off2 + i * 5 + 1, none⟩ = some (.int .i64 o.which) ∧ w.cell? ⟨b2, off2 + i * 5 + 2, none⟩ = some (.int .i64 o.m) ∧
      w.cell? ⟨b2, off2 + i * 5 + 3, none⟩ = some (.int .u64 o.n) ∧ w.cell? ⟨b2, off2 + i * 5 + 4, none⟩ = some (.slice o.ao o.b.length o.cap))
    (hg : ∀ o, o ∈ ops → COp.Good o w) (hsum : sumB ops ≤ 1048576) (T : Nat) (hT1 : T ≤ ops.length) (hT2 : T ≤ 400) (hT3 : 400 ≤ T) (hT4 : T < ops.length) :
    Calls Try.prog 6 #[.agg #[.slice ao0 l0 c0, .slice ao1 l1 c1, .slice ao2 ops.length c2]] w fun e w' => e = .returned (.bool true) ∧ Kept [] w w' := by
  have HEL : Hid (∀ k, k ≤ T → (encs ops k).length ≤ 4000 + sumB ops) := fun k hk => by have := encs_len ops hg k; omega
  have HOC : Hid (Octs (allW ops T)) := fun u hu => by
    rcases List.mem_cons.1 hu with rfl | hu
    · decide
    · exact encs_octs ops hg T u hu
  have HG : Hid (∀ o, o ∈ ops → COp.Good o w) := hg
  have HOPS : Hid (∀ (i : Nat) (o : COp), ops[i]? = some o →
      w.cell? ⟨b2, off2 + i * 5, none⟩ = some (.int .i64 o.kind) ∧ w.cell? ⟨b2, off2 + i * 5 + 1, none⟩ = some (.int .i64 o.which) ∧ w.cell? ⟨b2, off2 + i * 5 + 2, none⟩ = some (.int .i64 o.m) ∧
      w.cell? ⟨b2, off2 + i * 5 + 3, none⟩ = some (.int .u64 o.n) ∧ w.cell? ⟨b2, off2 + i * 5 + 4, none⟩ = some (.slice o.ao o.b.length o.cap)) := hops
  have HAO : Hid (ops ≠ [] → ao2 = some ⟨b2, off2, none⟩) := hao
  clear hg hops hao
  have hnew := New_any (w.alloc (.cells #[.slice ao0 l0 c0, .slice ao1 l1 c1, .slice ao2 ops.length c2] 26)) (w.heap.size + 1) (by rw [World.size_alloc]; exact Nat.le_refl _)
  rw [World.size_alloc] at hnew
  go_enter Try.func6, Try.ntmps6
  go_wp2_with (first
    | (go_at_call 17; refine hnew.mono ?_; rintro e w1 ⟨rfl, hW1, hk1⟩; have H8 := WU8_any hW1 (by have := hk1.size; rw [World.size_alloc] at this; exact this) 7 (by decide) (by decide) (by decide); have HW1 : Hid (WAt w1 (w.heap.size + 1) (w.heap.size + 1) [] [w.heap.size + 1]) := hW1; clear hW1)
    | (go_at_call 28; refine H8.mono ?_; rintro e w2 ⟨rfl, hW2⟩))
  have HTW : Hid (TW w w2 (w.heap.size + 1) (7 :: encs ops 0) (.slice ao2 ops.length c2)) := by
    have h1 : TW w w1 (w.heap.size + 1) [] (.slice ao2 ops.length c2) := ⟨⟨_, HW1.out⟩, by rw [hk1.last.2.1]; rfl, ((Kept.refl [] w).alloc _).then hk1, by have := hk1.size; rw [World.size_alloc] at this; exact this⟩
    have := tw_step h1 HW1.out hW2
    rw [seven] at this
    rw [encs_zero]
    exact this
  clear hnew H8 HW1 hk1 hW2
  go_loopw [4] (fun i wr => ∃ k : Nat, k ≤ T ∧ i = .int .i64 k ∧ Hid (TW w wr (w.heap.size + 1) (7 :: encs ops k) (.slice ao2 ops.length c2))) (fun i _ => T - (intOf i).toNat)
  case atStart => exact ⟨0, Nat.zero_le _, rfl, HTW⟩
  case round =>
    clear HTW
    obtain ⟨k, hkT, rfl, HTW⟩ := hrel
    have hbox := HTW.out.box
    by_cases hlt : k < T
    · obtain rfl := HAO.out (by rintro rfl; simp at hT1; omega)
      obtain ⟨o, hko⟩ : ∃ o, ops[k]? = some o := ⟨_, List.getElem?_eq_getElem (by omega)⟩
      have hgo := HG.out o (List.mem_of_getElem? hko)
      have KW := HTW.out.kept
      obtain ⟨q0, q1, q2, q3, q4⟩ := HOPS.out k o hko
      replace q0 := KW.cell q0 (by simp)
      replace q1 := KW.cell q1 (by simp)
      replace q2 := KW.cell q2 (by simp)
      replace q3 := KW.cell q3 (by simp)
      replace q4 := KW.cell q4 (by simp)
      obtain ⟨S, hW⟩ := HTW.out.wt
      have hl1 := HEL.out k hkT
      have hl2 : o.b.length ≤ sumB ops := sum_mem ops o (List.mem_of_getElem? hko)
      have hlay := lays_any hW HTW.out.size o (hgo.later KW) (fun hne b hb hS => by have := hgo.blk hne b hb; have := (hW.lt b hS).1; omega) (by simp; omega)
      have hnext : ∀ w2, Wrote wr w2 (w.heap.size + 1) (w.heap.size + 1) (7 :: encs ops k ++ encW o) S → TW w w2 (w.heap.size + 1) (7 :: encs ops (k + 1)) (.slice (some ⟨b2, off2, none⟩) ops.length c2) := fun w2 hw => by
        have := tw_step HTW.out hW hw
        rw [encs_succ ops k o hko]
        exact this
      have HN : Hid _ := hnext
      clear hko hgo KW hl1 hl2 hnext hW
      go_wp2_with (go_at_call 29; refine hlay.mono ?_; rintro e w2 ⟨rfl, hw2⟩)
      go_roundw
      case rel => exact ⟨k + 1, by omega, by go_num, HN.out _ hw2⟩
      case measure => simp [intOf]; omega
    · obtain rfl : k = T := by omega
      obtain ⟨wA, hwA⟩ : ∃ wA, wA = wr := ⟨_, rfl⟩
      subst hwA
      obtain ⟨N, hN⟩ : ∃ N, (allW ops k).length = N := ⟨_, rfl⟩
      have hNl : N ≤ 4001 + sumB ops := by have := HEL.out k (Nat.le_refl _); rw [← hN]; simp [allW]; omega
      have hN1 : 1 ≤ N := by rw [← hN]; simp [allW]
      have HN : Hid ((allW ops k).length = N) := hN
      have hout : Calls Try.prog 24 #[.pointer (some ⟨w.heap.size + 1, 0, none⟩)] wA fun e w' => e = .returned (.slice (some ⟨wA.heap.size, 0, none⟩) N N) ∧ w'.heap[wA.heap.size]? = some (.cells ((allW ops k).map (Value.int .u8)).toArray 5 (0, 0)) ∧ Kept [] wA w' := by
        obtain ⟨S, hW⟩ := HTW.out.wt
        have := WOut_any hW (by have e : (7 :: encs ops k).length = N := hN; rw [e]; omega)
        rw [← hN]; exact this
      have hlen4 : ∀ w4, Kept [] wA w4 → LenIs w4 (w.heap.size + 1) N := fun w4 k4 => by
        obtain ⟨S, hW⟩ := HTW.out.wt
        exact ⟨_, _, _, hW.kept k4 (by simp), hN⟩
      have HL4 : Hid (∀ w4, Kept [] wA w4 → LenIs w4 (w.heap.size + 1) N) := hlen4
      have h7 : takeL (allW ops k) 0 0 0 1 0 = ⟨7, [], 1, 0⟩ := back_fixed (allW ops k) 0 1 7 (encs ops k) (by decide) (by decide) (by rw [seven]; rfl)
      have H7 : Hid (takeL (allW ops k) 0 0 0 1 0 = ⟨7, [], 1, 0⟩) := h7
      clear hN hlen4 h7
      have hn0 : ((N : Int) == 0) = false := beq_eq_false_iff_ne.2 (by omega)
      go_wp2_with (first
        | (go_at_call 24; refine hout.mono ?_; rintro e w3 ⟨rfl, hq, hk3⟩; have hrd := Read_any _ (allW ops k) w3 (bytes_row' HN.out hq) (by rw [HN.out]; omega) HOC.out; have HQ : Hid (w3.heap[wA.heap.size]? = some (.cells ((allW ops k).map (Value.int .u8)).toArray 5 (0, 0))) := hq; clear hq)
        | (go_at_call 8; refine hrd.mono ?_; rintro e w4 ⟨r, g, rfl, R4, hk4, hr4, hg4⟩; have L4 := HL4.out w4 (hk3.then hk4); have hu8 := U8_any R4 ⟨7, [], 1, 0⟩ H7.out.symm; have HR4 : Hid (Rdr w4 r g (allW ops k) 0 0) := R4; clear R4)
        | (go_at_call 27; refine (len_of (by assumption)).mono ?_; rintro e w9 ⟨rfl, hw9⟩; subst w9)
        | (go_at_call 30; refine hu8.mono ?_; rintro e w5 ⟨rfl, R5, hk5⟩))
      have hqlt := lt_of_block HQ.out
      have hk34 : Kept [] wA w4 := hk3.then hk4
      have HTR : Hid (TR w w5 r g wA.heap.size (allW ops k) (allW ops k) (1 + (encs ops 0).length) 0 (.slice ao2 ops.length c2)) := by
        have h4 : TR w w4 r g wA.heap.size (allW ops k) (allW ops k) 0 0 (.slice ao2 ops.length c2) := ⟨HR4.out, hk4.heap HQ.out (by simp), hk34.cell hbox (by simp), HTW.out.kept.then hk34, by have := HTW.out.size; have := hk3.size; omega, by omega⟩
        have := tr_step h4 R5 hk5
        rw [encs_zero]
        exact this
      clear hout hrd hu8 HR4 R5 hk5 hk34 hk3 hk4 L4 HQ HL4 HTW hbox H7
      go_loopw [7] (fun i wr => ∃ j : Nat, j ≤ k ∧ i = .int .i64 j ∧ Hid (TR w wr r g wA.heap.size (allW ops k) (allW ops k) (1 + (encs ops j).length) 0 (.slice ao2 ops.length c2))) (fun i _ => k - (intOf i).toNat)
      case atStart => exact ⟨0, Nat.zero_le _, rfl, HTR⟩
      case round =>
        clear HTR
        obtain ⟨j, hjk, rfl, HTR⟩ := hrel
        have hbox := HTR.out.box
        by_cases hjl : j < k
        · obtain rfl := HAO.out (by rintro rfl; simp at hT1; omega)
          obtain ⟨o, hko⟩ : ∃ o, ops[j]? = some o := ⟨_, List.getElem?_eq_getElem (by omega)⟩
          have hgo := HG.out o (List.mem_of_getElem? hko)
          have KW := HTR.out.kept
          obtain ⟨q0, q1, q2, q3, q4⟩ := HOPS.out j o hko
          replace q0 := KW.cell q0 (by simp)
          replace q1 := KW.cell q1 (by simp)
          replace q2 := KW.cell q2 (by simp)
          replace q3 := KW.cell q3 (by simp)
          replace q4 := KW.cell q4 (by simp)
          obtain ⟨tl, hd, hl⟩ := allW_drop ops k j o hko hjl
          have hrb := read_back (allW ops k) _ o tl hgo.n0 hgo.n1 hgo.small hd
          have hlo := HTR.out.lo
          have hbk := back_any HTR.out.rd o (hgo.later KW) (fun hne b hb => by have := hgo.blk hne b hb; simp; omega)
          rw [hrb] at hbk
          have hen : 1 + (encs ops j).length + (encW o).length = 1 + (encs ops (j + 1)).length := by rw [encs_succ ops j o hko]; simp; omega
          have hstep : ∀ (e : Ending) w', BackTo wr w' r g (allW ops k) ⟨wantN o, wantT o, 1 + (encs ops j).length + (encW o).length, 0⟩ o e → e = .returned (.bool true) ∧ Rdr w' r g (allW ops k) (1 + (encs ops (j + 1)).length) 0 ∧ TR w w' r g wA.heap.size (allW ops k) (allW ops k) (1 + (encs ops (j + 1)).length) 0 (.slice (some ⟨b2, off2, none⟩) ops.length c2) := by
            rintro e w' ⟨res, he, hres, hr, hkp⟩
            dsimp only at hr
            rw [hen] at hr
            rw [hres rfl rfl] at he
            exact ⟨he, hr, tr_step HTR.out hr hkp⟩
          have hbk2 := hbk.mono hstep
          clear hbk hstep hko hgo KW hd hl hrb hlo hen
          go_wp2_with (first
            | (go_at_call 31; refine hbk2.mono ?_; rintro e w6 ⟨rfl, R6, hT6⟩; have HT6 : Hid (TR w w6 r g wA.heap.size (allW ops k) (allW ops k) (1 + (encs ops (j + 1)).length) 0 (.slice (some ⟨b2, off2, none⟩) ops.length c2)) := hT6; clear hT6)
            | (go_at_call 11; refine (Fault_any (by assumption) (by decide)).mono ?_; rintro e w9 ⟨rfl, hw9⟩; subst w9)
            | (go_at_call 10; refine (num_any _ _).mono ?_; rintro e w9 ⟨rfl, hw9⟩; subst w9))
          go_roundw
          case rel => exact ⟨j + 1, by omega, by go_num, HT6⟩
          case measure => simp [intOf]; omega
        · obtain rfl : j = k := by omega
          obtain ⟨wB, hwB⟩ : ∃ wB, wB = wr := ⟨_, rfl⟩
          subst hwB
          have hNj : 1 + (encs ops j).length = N := by rw [← HN.out]; simp [allW]; omega
          have R := HTR.out.rd
          rw [hNj] at R
          have hend := End_any R (by decide)
          rw [if_neg (by decide), if_neg (by rw [HN.out]; omega)] at hend
          have hRn : ∀ n, Rdr (wB.drewN n) r g (allW ops j) N 0 := fun n => R.kept (S := []) ((Kept.refl _ _).drewN n) (by simp) (by simp)
          have hleft : ∀ n, Calls Try.prog 15 #[.pointer (some ⟨r, 0, none⟩)] (wB.drewN n) fun e w' => e = .returned (.int .i64 0) ∧ ∃ m, w' = (wB.drewN n).drewN m := fun n => (Left_any (hRn n)).mono fun e w' ⟨he, hw⟩ => ⟨by rw [he, HN.out]; simp, hw⟩
          have hrow : ∀ n, BytesAt (wB.drewN n) (.slice (some ⟨wA.heap.size, 0, none⟩) (N - 1) N) ((allW ops j).take (N - 1)) := fun n => by
            have := (bytes_row' HN.out (((Kept.refl [] wB).drewN n).heap HTR.out.row' (by simp)))
            have h2 := BytesAt.head (ys := allW ops j) (by rw [HN.out]; exact this) (N - 1) (by rw [HN.out]; omega)
            exact h2
          have hl1 : ((allW ops j).take (N - 1)).length = N - 1 := by rw [List.length_take, HN.out]; omega
          have hread : ∀ n, Calls Try.prog 8 #[.slice (some ⟨wA.heap.size, 0, none⟩) (N - 1) N] (wB.drewN n) fun e w' => ∃ r2 g2, e = .returned (.pointer (some ⟨r2, 0, none⟩)) ∧ TR w w' r2 g2 wA.heap.size ((allW ops j).take (N - 1)) (allW ops j) 0 0 (.slice ao2 ops.length c2) := fun n =>
            (Read_any _ _ _ (hrow n) (by rw [hl1]; omega) (octs_take HOC.out _)).mono fun e w' ⟨r2, g2, he, hR, hk, h1, h2⟩ => by
              have hT := HTR.out.later ((Kept.refl [] wB).drewN n)
              have hq := lt_of_block HTR.out.row'
              have hlo := HTR.out.lo
              have hrl := lt_of_block HTR.out.rd.blk
              refine ⟨r2, g2, he, hR, hk.heap hT.row' (by simp), hk.cell hT.box (by simp), hT.kept.then hk, ?_, ?_⟩
              · have : wB.heap.size ≤ r2 := h1; omega
              · have : wB.heap.size ≤ r2 := h1; omega
          have HLF : Hid (∀ n, Calls Try.prog 15 #[.pointer (some ⟨r, 0, none⟩)] (wB.drewN n) fun e w' => e = .returned (.int .i64 0) ∧ ∃ m, w' = (wB.drewN n).drewN m) := hleft
          have HRD : Hid (∀ n, Calls Try.prog 8 #[.slice (some ⟨wA.heap.size, 0, none⟩) (N - 1) N] (wB.drewN n) fun e w' => ∃ r2 g2, e = .returned (.pointer (some ⟨r2, 0, none⟩)) ∧ TR w w' r2 g2 wA.heap.size ((allW ops j).take (N - 1)) (allW ops j) 0 0 (.slice ao2 ops.length c2)) := hread
          have HRN : Hid (∀ n, Rdr (wB.drewN n) r g (allW ops j) N 0) := hRn
          have HL1 : Hid (((allW ops j).take (N - 1)).length = N - 1) := hl1
          clear hleft hread hRn hrow R hNj hl1
          have hsl := fun wx => slice_head (P := Try.prog) wx 22 (some ⟨wA.heap.size, 0, none⟩) N N (N - 1) Try.elem_bytes (Try.size_elem wx) (by omega)
          rw [show ((N - 1 : Nat) : Int) = (N : Int) - 1 by omega] at hsl
          go_wp2_with (first
            | (go_at_call 14; refine hend.mono ?_; rintro e w9 ⟨rfl, n9, rfl⟩)
            | (go_at_call 10; refine (num_any _ _).mono ?_; rintro e w9 ⟨rfl, hw9⟩; subst w9)
            | (go_at_call 15; refine (HLF.out _).mono ?_; rintro e w9 ⟨rfl, n8, rfl⟩)
            | (go_at_call 12; refine (At_any (HRN.out _)).mono ?_; rintro e w9 ⟨rfl, hw9⟩; subst w9)
            | (go_at_call 8; refine (HRD.out _).mono ?_; rintro e w7 ⟨r2, g2, rfl, hT7⟩; have hu8 := U8_any hT7.rd _ rfl; have HT7 : Hid (TR w w7 r2 g2 wA.heap.size ((allW ops j).take (N - 1)) (allW ops j) 0 0 (.slice ao2 ops.length c2)) := hT7; clear hT7)
            | (go_at_call 30; refine hu8.mono ?_; rintro e w8 ⟨rfl, R8, hk8⟩))
          have eN : (allW ops j).take (N - 1) = (allW ops j).take ((allW ops j).length - 1) := by rw [HN.out]
          have hT8 := tr_step HT7.out R8 hk8
          rw [eN] at hT8
          have HC0 : Hid (∃ pl f, TR w w8 r2 g2 wA.heap.size ((allW ops j).take ((allW ops j).length - 1)) (allW ops j) pl f (.slice ao2 ops.length c2) ∧ Cut ops j 0 pl f) := ⟨_, _, hT8, cut_start ops j⟩
          clear hu8 R8 hk8 HT7 hT8 eN HTR hbox hend HLF HRD HRN hsl
          go_loopw [9] (fun i wr => ∃ m : Nat, m ≤ j ∧ i = .int .i64 m ∧ Hid (∃ pl f, TR w wr r2 g2 wA.heap.size ((allW ops j).take ((allW ops j).length - 1)) (allW ops j) pl f (.slice ao2 ops.length c2) ∧ Cut ops j m pl f)) (fun i _ => j - (intOf i).toNat)
          case atStart => exact ⟨0, Nat.zero_le _, rfl, HC0⟩
          case round =>
            clear HC0
            obtain ⟨m, hmj, rfl, HC⟩ := hrel
            obtain ⟨pl, f, hTR, hCut⟩ := HC.out
            clear HC
            have hbox := hTR.box
            by_cases hml : m < j
            · obtain rfl := HAO.out (by rintro rfl; simp at hT1; omega)
              obtain ⟨o, hko⟩ : ∃ o, ops[m]? = some o := ⟨_, List.getElem?_eq_getElem (by omega)⟩
              have hgo := HG.out o (List.mem_of_getElem? hko)
              have KW := hTR.kept
              obtain ⟨q0, q1, q2, q3, q4⟩ := HOPS.out m o hko
              replace q0 := KW.cell q0 (by simp)
              replace q1 := KW.cell q1 (by simp)
              replace q2 := KW.cell q2 (by simp)
              replace q3 := KW.cell q3 (by simp)
              replace q4 := KW.cell q4 (by simp)
              have hlo := hTR.lo
              have hbk := back_any hTR.rd o (hgo.later KW) (fun hne b hb => by have := hgo.blk hne b hb; simp; omega)
              have hcs := cut_step ops j m pl f o hko hml hgo hCut
              have hbk2 : Calls Try.prog 31 #[.pointer (some ⟨r2, 0, none⟩), .agg #[.int .i64 o.kind, .int .i64 o.which, .int .i64 o.m, .int .u64 o.n, .slice o.ao o.b.length o.cap]] wr fun e w' => ∃ res, e = .returned (.bool res) ∧ Hid (∃ pl f, TR w w' r2 g2 wA.heap.size ((allW ops j).take ((allW ops j).length - 1)) (allW ops j) pl f (.slice (some ⟨b2, off2, none⟩) ops.length c2) ∧ Cut ops j (m + 1) pl f) :=
                hbk.mono fun e w' ⟨res, he, _, hr, hk⟩ => ⟨res, he, _, _, tr_step hTR hr hk, hcs⟩
              clear hbk hcs hko hgo KW hlo hTR hCut
              go_wp2_with (go_at_call 31; refine hbk2.mono ?_; rintro e w6 ⟨res, rfl, HC6⟩)
              go_roundw
              case rel => exact ⟨m + 1, by omega, by go_num, HC6⟩
              case measure => simp [intOf]; omega
            · obtain rfl : m = j := by omega
              obtain rfl := cut_end ops m pl f hCut
              have R9 := hTR.rd
              have hend9 := End_any R9 (by decide)
              rw [if_pos (by decide)] at hend9
              have HK9 : Hid (∀ n, Kept [] w (wr.drewN n)) := fun n => hTR.kept.drewN n
              clear hTR hCut
              go_wp2_with (first
                | (go_at_call 11; refine (Fault_any (by assumption) (by decide)).mono ?_; rintro e w9 ⟨rfl, hw9⟩; subst w9)
                | (go_at_call 10; refine (num_any _ _).mono ?_; rintro e w9 ⟨rfl, hw9⟩; subst w9)
                | (go_at_call 14; refine hend9.mono ?_; rintro e w9 ⟨rfl, n9, rfl⟩))
              go_ret
              exact ⟨rfl, HK9.out _⟩


theorem turns_any (w : World) (ao0 ao1 ao2 : Option Addr) (l0 l1 c0 c1 c2 : Nat) (ops : List COp) (hops : OpsAt w (.slice ao2 ops.length c2) ops) (hg : ∀ o, o ∈ ops → COp.Good o w) (hsum : sumB ops ≤ 1048576) :
    Calls Try.prog 6 #[.agg #[.slice ao0 l0 c0, .slice ao1 l1 c1, .slice ao2 ops.length c2]] w fun e w' => e = .returned (.bool true) ∧ Kept [] w w' := by
  obtain ⟨ao, cap, hv, hl, hc⟩ := hops
  simp only [Value.slice.injEq] at hv
  obtain ⟨rfl, _, rfl⟩ := hv
  obtain ⟨b, off, hao, hcells⟩ : ∃ b off, (ops ≠ [] → ao2 = some ⟨b, off, none⟩) ∧ ∀ (i : Nat) (o : COp), ops[i]? = some o →
      w.cell? ⟨b, off + i * 5, none⟩ = some (.int .i64 o.kind) ∧ w.cell? ⟨b, off + i * 5 + 1, none⟩ = some (.int .i64 o.which) ∧ w.cell? ⟨b, off + i * 5 + 2, none⟩ = some (.int .i64 o.m) ∧
      w.cell? ⟨b, off + i * 5 + 3, none⟩ = some (.int .u64 o.n) ∧ w.cell? ⟨b, off + i * 5 + 4, none⟩ = some (.slice o.ao o.b.length o.cap) := by
    by_cases hne : ops = []
    · subst hne; exact ⟨0, 0, fun h => absurd rfl h, fun i o h => by simp at h⟩
    · obtain ⟨b, off, e, hcells⟩ := hc hne
      exact ⟨b, off, fun _ => e, hcells⟩
  by_cases h400 : ops.length ≤ 400
  · exact turns_A w b off c2 ao0 ao1 ao2 l0 l1 c0 c1 ops hao hcells hg hsum ops.length (Nat.le_refl _) h400 (Nat.le_refl _)
  · exact turns_B w b off c2 ao0 ao1 ao2 l0 l1 c0 c1 ops hao hcells hg hsum 400 (by omega) (Nat.le_refl _) (Nat.le_refl _) (by omega)

end Go.Proofs.Ytbflokiijfomeaa
