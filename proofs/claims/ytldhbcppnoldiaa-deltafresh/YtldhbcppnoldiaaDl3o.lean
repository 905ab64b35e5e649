/-
  WALK: delta.Apply: what is answered lies in memory of its own.
-/
import Derived.Test.YtldhbcppnoldiaaDl3
namespace Go.Proofs.Ytldhbcppnoldiaa
open Go.RowKit

structure AppOw (w w' : World) (R : Int × List Int) (v : Value) : Prop where
  own : OwnB w' w.heap.size v R.2
  kept : Kept [] w w'

set_option maxRecDepth 100000 in
set_option maxHeartbeats 4000000 in
theorem Apply_own {w : World} {ao : Option Addr} {cap : Nat} {bs ds : List Int} {vd : Value} (hb : BytesAt w (.slice ao bs.length cap) bs) (hd : BytesAt w vd ds) (hod : Octs ds) (hsd : ds.length ≤ 140737488355328)
    (R : Int × List Int) (hR : Hid (R = applyL bs ds)) :
    Calls Try.prog 25 #[.slice ao bs.length cap, vd] w fun e w' => ∃ v, e = .returned (.tuple #[v, .int .i64 R.1]) ∧ AppOw w w' R v := by
  obtain ⟨h, hh⟩ : ∃ h, Hid (h = headL ds (fun m => decide (m = bs.length))) := ⟨_, rfl⟩
  have hRe : Hid (R = applyOf bs ds h) := by
    have e : applyL bs ds = applyOf bs ds h := by unfold applyL; rw [← hh.out]
    exact hR.out.trans e
  have hok : h.err = 0 → 0 ≤ h.t ∧ h.t ≤ 65536 ∧ bs.length ≤ 65536 := by
    intro h0
    rw [hh.out] at h0 ⊢
    obtain ⟨a1, a2, a3, _⟩ := head_ok ds hod _ h0
    have a4 := len1_fits ds hod
    have a5 : (len1 ds).n = bs.length := by simpa using a3
    exact ⟨a1, a2, by omega⟩
  have hmf : ∀ (fn : Fn) (first cap : Array Value) (w : World), (Instr.makeFunc fn first cap).run Try.prog w = .ok (.func fn first cap) w := fun _ _ _ _ => rfl
  have kb := (Kept.refl [] w).alloc (.cells #[.slice ao bs.length cap] 22)
  have hrd := Read_any vd ds _ (hd.kept kb (fun _ _ => by simp)) hsd hod
  have HB : Hid (∀ W, Kept [] w W → BytesAt W (.slice ao bs.length cap) bs) := fun W k => hb.kept k (fun _ _ => by simp)
  have hlt : bs ≠ [] → ∀ k, blkOf (.slice ao bs.length cap) = some k → k < w.heap.size := by
    intro hne k hk
    obtain ⟨_, _, he, _, _, hcc⟩ := hb
    injection he with e1 e2 e3
    subst e1
    obtain ⟨b', off', rfl, hh⟩ := hcc hne
    simp [blkOf] at hk
    subst hk
    cases bs with
    | nil => exact absurd rfl hne
    | cons x t => exact World.block_lt_of_cell? w _ (hh 0 x rfl)
  have HLT : Hid _ := hlt
  clear hb hd hR hlt
  go_enter Try.func25, Try.ntmps25
  go_wp2_with fail
  go_at_call 7
  refine hrd.mono ?_
  rintro e w1 ⟨r, g, rfl, R1, k1, hr, hg⟩
  have b1 := k1.heap (heap_alloc_new w (.cells #[.slice ao bs.length cap] 22)) (by simp)
  obtain ⟨q1, q2, q3⟩ := own_facts b1
  have hz1 : w.heap.size < r := by rw [World.size_alloc] at hr; omega
  have hz2 : w.heap.size < g := by rw [World.size_alloc] at hg; omega
  have HZ : Hid (w.heap.size < r ∧ w.heap.size < g) := ⟨hz1, hz2⟩
  have hlen := lengthsA_any R1 (q1 0) (by omega) h hh
  have HK1 : Hid (Kept [] w w1) := kb.then k1
  have HB1 : Hid _ := b1
  have HR1 : Hid _ := R1
  clear hrd k1 kb b1 R1
  go_wp2_with fail
  go_at_call 55
  refine hlen.mono ?_
  rintro e w2 ⟨rfl, t1, t2⟩
  have hsz2 := t2.size
  have hgw : g < w2.heap.size := Nat.lt_of_lt_of_le (lt_of_block HR1.out.row) hsz2
  have hrw : r < w2.heap.size := Nat.lt_of_lt_of_le (lt_of_block HR1.out.blk) hsz2
  have HB2 : Hid (w2.heap[w.heap.size]? = some (.cells #[.slice ao bs.length cap] 22 (0, 0))) := t2.heap HB1.out (by simp; omega)
  have HK2 : Hid (Kept [] w w2) := HK1.out.trans t2 (by simp; omega)
  have HT1 : Hid (h.err = 0 → Rdr w2 r g ds h.pl 0) := t1
  clear hlen t1 t2 HB1 HK1 HR1 q1 q2 q3 hsz2
  by_cases c0 : h.err = 0
  · obtain ⟨o1, o2, o3⟩ := hok c0
    obtain ⟨t, ht⟩ : ∃ t : Nat, h.t = t := ⟨h.t.toNat, by omega⟩
    have HRun : Hid (runL bs ds t h.pl (t - 0) [] = R) := by
      have e := hRe.out
      unfold applyOf at e
      rw [if_neg (by simpa using c0), ht, Int.toNat_natCast] at e
      exact e.symm
    have R2 := HT1.out c0
    rw [c0, ht]
    rw [ht] at o2
    obtain ⟨i0, hi, hi0, hi1, hi2⟩ := info_parts Try.info_u8
    have hmk : ∀ W : World, (Instr.makeSlice 22 (.int .i64 0) (.int .i64 (t : Int))).run Try.prog W = .ok (.slice (some ⟨W.heap.size, 0, none⟩) 0 t) (W.alloc (.cells (madeCells (Value.int .u8 0).cells t) 5)) := fun W => by
      have e := run_make (P := Try.prog) W 22 5 i0 (.int .u8 0) Try.underlying22 hi hi0 .i64 .i64 0 (t : Int) (by decide) (by omega) (by rw [hi2]; omega) (by omega)
      rw [hi1, Int.toNat_natCast, Nat.mul_one] at e
      exact e
    have P3 : ApSt w ((w2.alloc (.cells #[.int .i64 h.b, .int .i64 t] 108)).alloc (.cells (madeCells (Value.int .u8 0).cells t) 5)) ao cap bs.length w2.heap.size r g (w2.heap.size + 1) h.b t ds h.pl (.slice (some ⟨w2.heap.size + 1, 0, none⟩) 0 t) [] := by
      refine ⟨(HK2.out.alloc _).alloc _, ?_, ?_, (R2.alloc _).alloc _, ?_, by omega, by omega, hrw, hgw, by omega, by simp⟩
      · exact ((((Kept.refl [] w2).alloc _).alloc _).heap HB2.out (by simp))
      · exact ((Kept.refl [] _).alloc _).heap (heap_alloc_new w2 _) (by simp)
      · have h1 := World.ownsRow_made (w := (w2.alloc (.cells #[.int .i64 h.b, .int .i64 t] 108))) (base := w2.heap.size + 1) (e := 5) (size := 1) (madeCells (Value.int .u8 0).cells t) t (by simp) (by unfold maxLen; omega) (by rw [size_madeCells]; omega)
        rw [World.size_alloc] at h1
        exact h1
    have HP3 : Hid _ := P3
    clear P3 R2 HT1 HB2 HK2 hRe hok hh
    go_wp2
    have HW : Hid (w2.heap.size + 1 ≤ w2.heap.size + 1) := Nat.le_refl _
    generalize w2.heap.size = sb at *
    generalize hB : sb + 1 = B at *
    have HBs : Hid (B = sb + 1) := hB.symm
    clear hB HW hmk hi hi0 hi1 hi2 hgw hrw
    go_loopw [9, 10, 11] (fun s9 _ _ wr => ∃ (acc : List Int) (pl fuel : Nat) (c9 : Nat) (g9 : Option Addr), s9 = .slice g9 acc.length c9 ∧ acc.length ≤ t ∧ Hid (ApSt w wr ao cap bs.length sb r g B h.b t ds pl s9 acc ∧ runL bs ds fuel pl (t - acc.length) acc = R ∧ t - acc.length ≤ fuel)) (fun s9 _ _ _ => t - (lenOf s9))
    case atStart => exact ⟨[], h.pl, t, _, _, rfl, Nat.zero_le _, HP3.out, HRun.out, by simp⟩
    case round =>
      clear HP3 HRun
      obtain ⟨acc, pl, fuel, c9, g9, rfl, hat, HS⟩ := hrel
      have HP : Hid (ApSt w wr ao cap bs.length sb r g B h.b t ds pl (.slice g9 acc.length c9) acc) := HS.out.1
      have HRun : Hid (runL bs ds fuel pl (t - acc.length) acc = R) := HS.out.2.1
      have HF : Hid (t - acc.length ≤ fuel) := HS.out.2.2
      clear HS
      obtain ⟨q1, q2, q3⟩ := own_facts HP.out.box
      obtain ⟨p1, p2, p3⟩ := own_facts HP.out.sz
      have g0 := q1 0
      have g1 := p1 1
      simp at g0 g1
      by_cases hlt : acc.length < t
      · obtain ⟨c, hc⟩ : ∃ c, Hid (c = cmdL bs ds pl (t - acc.length)) := ⟨_, rfl⟩
        have hcmd := command_any HP.out.rd (HB.out _ HP.out.kept) (fun hne k hk => by have := HLT.out hne k hk; have := HP.out.b1; omega) o3 (t - acc.length) (by omega) c hc
        have hw : IntKind.i64.wrap ((t : Int) - acc.length) = ((t - acc.length : Nat) : Int) := by rw [IntKind.wrap_i64]; omega
        have t1 : decide ((acc.length : Int) < t) = true := by simp; omega
        clear q1 q2 p1 p2
        go_wp2_with fail
        go_at_call 57
        refine hcmd.mono ?_
        rintro e w3 ⟨v, rfl, s1, s2, s3⟩
        have HS1 : Hid (c.err = 0 → Rdr w3 r g ds c.pl 0) := s1
        have HB3 : Hid (BytesAt w3 v c.text) := s2
        have HK3 : Hid (Kept [r] wr w3) := s3
        obtain ⟨av, cv, rfl, _⟩ := s2
        clear hcmd s1 s3
        by_cases c1 : c.err = 0
        · have hlen := cmd_len bs ds hod pl (t - acc.length) (by rw [← hc.out]; exact c1)
          rw [← hc.out] at hlen
          have HRun2 : Hid (runL bs ds (fuel - 1) c.pl (t - acc.length - c.text.length) (acc ++ c.text) = R) := by
            have e := run_on bs ds fuel pl (t - acc.length) acc HF.out (by omega) (by rw [← hc.out]; exact c1)
            rw [← hc.out, HRun.out] at e
            exact e.symm
          have P4 := HP.out.cmd HK3.out (HS1.out c1)
          rw [c1]
          have HP4 : Hid _ := P4
          clear P4 HS1 HK3 HP HRun hc g0 g1
          go_wp2_with (at_builtin; refine wpList_append_bytes (by rfl) (.tmp 45) (.tmp 46) (by rfl) (by rfl) HP4.out.own (by rfl) HB3.out (by omega) HP4.out.b6 ?_; intro v5 w5 ha; have HP5 : Hid (ApSt w w5 ao cap bs.length sb r g B h.b t ds c.pl v5 (acc ++ c.text)) := HP4.out.app ha; obtain ⟨g5, c5, rfl⟩ := own_shape ha.own; clear ha)
          go_roundw
          case rel =>
            rw [← @List.length_append _ acc c.text]
            refine ⟨acc ++ c.text, c.pl, fuel - 1, _, _, rfl, by rw [List.length_append]; omega, HP5.out, ?_, by rw [List.length_append]; have := HF.out; omega⟩
            rw [List.length_append, ← Nat.sub_sub]
            exact HRun2.out
          case measure => simp [lenOf]; omega
        · have e1 : (c.err != 0) = true := by simpa using c1
          have hRf : R = (c.err, []) := by
            have e := run_bad bs ds fuel pl (t - acc.length) acc HF.out (by omega) (by rw [← hc.out]; exact c1)
            rw [← hc.out, HRun.out] at e
            exact e
          subst hRf
          have HK4 : Hid (Kept [] w w3) := HP.out.kept.trans HK3.out (by have := HP.out.b1; simp; omega)
          clear HP HRun HK3 HS1
          go_wp2
          go_ret2
          exact ⟨.slice none 0 0, rfl, World.ownsRow_nil _ _ _ _, HK4.out⟩
      · have h0 : t - acc.length = 0 := by omega
        have hRf : R = if pl < ds.length then (70, []) else (0, acc) := by
          have e := HRun.out
          rw [h0, run_done] at e
          exact e.symm
        have hleft := Left_any HP.out.rd
        have t1 : decide ((acc.length : Int) < t) = false := by simp; omega
        have hle := HP.out.rd.le
        clear q1 q2 p1 p2
        go_wp2_with fail
        go_at_call 58
        refine hleft.mono ?_
        rintro e w3 ⟨rfl, n3, rfl⟩
        clear hleft
        by_cases c1 : pl < ds.length
        · rw [if_pos c1] at hRf
          subst hRf
          have e1 : decide (0 < (ds.length : Int) - pl) = true := by simp; omega
          have HK4 : Hid (Kept [] w (wr.drewN n3)) := HP.out.kept.drewN n3
          clear HP HRun
          go_wp2
          go_ret2
          exact ⟨.slice none 0 0, rfl, World.ownsRow_nil _ _ _ _, HK4.out⟩
        · rw [if_neg c1] at hRf
          subst hRf
          have e1 : decide (0 < (ds.length : Int) - pl) = false := by simp; omega
          have HK4 : Hid (Kept [] w (wr.drewN n3)) := HP.out.kept.drewN n3
          have HO : Hid (OwnB (wr.drewN n3) B (.slice g9 acc.length c9) acc) := HP.out.own.kept (T := []) ((Kept.refl _ _).drewN n3) (by simp)
          have HBB : Hid (w.heap.size ≤ B) := by have h1 := HP.out.b1; have h2 := HP.out.b3; have h3 := HP.out.b5; exact (by omega : w.heap.size ≤ B)
          clear HP HRun
          go_wp2
          go_ret2
          exact ⟨_, rfl, HO.out.mono HBB.out, HK4.out⟩
  · have e0 : (h.err != 0) = true := by simpa using c0
    have hRf : R = (h.err, []) := by rw [hRe.out]; unfold applyOf; rw [if_pos c0]
    subst hRf
    clear hRe hok
    go_wp2
    go_ret2
    exact ⟨.slice none 0 0, rfl, World.ownsRow_nil _ _ _ _, HK2.out.alloc _⟩
end Go.Proofs.Ytldhbcppnoldiaa
