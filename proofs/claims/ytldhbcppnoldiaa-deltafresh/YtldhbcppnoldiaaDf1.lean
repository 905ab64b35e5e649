/-
  WALK: satchellaw7.DeltaFresh, for every list of pairs.
-/
import Derived.Test.YtldhbcppnoldiaaFr0
import Derived.Test.YtldhbcppnoldiaaDm1
import Derived.Test.YtldhbcppnoldiaaDl3o
namespace Go.Proofs.Ytldhbcppnoldiaa
open Go.RowKit

theorem Lent.low {w : World} {B B' g cap : Nat} {ys : List Int} (h : Lent w B g cap ys) (hb : B' ≤ B) : Lent w B' g cap ys := OwnB.mono h hb
theorem row_own {w : World} {B g : Nat} {ys : List Int} (h : w.heap[g]? = some (.cells (ys.map (Value.int .u8)).toArray 5 (0, 0))) (hB : B ≤ g) (hm : ys.length ≤ 140737488355328) : OwnB w B (.slice (some ⟨g, 0, none⟩) ys.length ys.length) ys := by
  refine ⟨by simp, Or.inr ⟨g, ys.length, _, rfl, hB, h, Nat.le_refl _, by unfold maxLen; omega, by simp, ?_⟩⟩
  rw [Nat.mul_one]
  exact List.take_of_length_le (by simp)

theorem wpList_built {ops : Array Oper} {rest : List Oper} {o : Oper} {a : Act} {w : World} {Q : Exit → Act → World → Prop} (hg : o.guard = none) (t : TypeId) (parts : Array (Nat × Operand)) (ho : o.op = .build t parts) (A : Array Value)
    (hb : Try.prog.built t (parts.map fun (i, x) => (i, a.eval x)).toList = some A) (h : wpList Try.prog ops Q rest (a.put o.dst (.agg A)) w) : wpList Try.prog ops Q (o :: rest) a w :=
  wpList_build hg t parts ho (by rw [hb]; rfl) (by rw [hb]; exact h)

set_option maxRecDepth 100000 in
set_option maxHeartbeats 8000000 in
theorem fresh7_any {w : World} {v : Value} {ps : List DPr} (hv : PairsAt w v ps) (hg : ∀ p, p ∈ ps → p.Good w) :
    Calls Try.prog 5 #[v] w fun e w' => e = .returned (.bool true) ∧ Kept [] w w' := by
  have hliv := lives_any w
  obtain ⟨ao, cap, rfl, hpl, hcc⟩ := hv
  have HC : Hid (ps ≠ [] → ∃ b off, ao = some ⟨b, off, none⟩ ∧ ∀ (i : Nat) (p : DPr), ps[i]? = some p →
      w.cell? ⟨b, off + i * 2, none⟩ = some (.slice p.ab p.bs.length p.cb) ∧ w.cell? ⟨b, off + i * 2 + 1, none⟩ = some (.slice p.ad p.ds.length p.cd)) := hcc
  have HG : Hid (∀ p, p ∈ ps → p.Good w) := hg
  clear hcc hg
  go_enter Try.func5, Try.ntmps5
  go_wp2_with fail
  go_at_call 20
  refine hliv.mono ?_
  rintro e w1 ⟨rfl, k1⟩
  have HK1 : Hid (Kept [] w w1) := k1
  obtain ⟨BC, hBC⟩ : ∃ A, A = bookC (.slice none 0 0) (.slice none 0 0) 0 0 0 0 := ⟨_, rfl⟩
  obtain ⟨LC, hLC⟩ : ∃ A : Array Value, A = #[.slice none 0 0, .slice none 0 0, .slice none 0 0, .slice none 0 0] := ⟨_, rfl⟩
  have HBC : Hid (BC = bookC (.slice none 0 0) (.slice none 0 0) 0 0 0 0) := hBC
  have HLC : Hid (LC = #[.slice none 0 0, .slice none 0 0, .slice none 0 0, .slice none 0 0]) := hLC
  have HF1 : Hid (Fr w ((w1.alloc (.cells BC 49)).alloc (.cells LC 52)) w1.heap.size (w1.heap.size + 1) 0 0 []) := by
    rw [hBC, hLC]
    exact Fr.new w w1 k1
  clear hliv k1 hBC hLC
  go_wp2_with (first
    | (refine wpList_built (by rfl) 49 #[] (by rfl) BC (by rw [HBC.out]; kernel_rfl) ?_)
    | (refine wpList_built (by rfl) 52 #[] (by rfl) LC (by rw [HLC.out]; kernel_rfl) ?_))
  generalize hbb : w1.heap.size = bb at *
  generalize hlb : bb + 1 = lb at *
  clear hbb hlb
  go_loopw [5, 6, 7, 8, 9, 10, 11] (fun s5 _ _ _ _ _ _ wr => ∃ k : Nat, k ≤ ps.length ∧ k ≤ 60 ∧ s5 = .int .i64 k ∧ Hid (Fr w wr bb lb (4 * k) 6 [])) (fun s5 _ _ _ _ _ _ _ => ps.length - (intOf s5).toNat)
  case atStart => exact ⟨0, Nat.zero_le _, by omega, rfl, HF1.out.mono (by omega) (by omega)⟩
  case round =>
    clear HF1 HK1
    obtain ⟨k, hk, hk60, rfl, HF⟩ := hrel
    by_cases hlt : k < ps.length ∧ k < 60
    · obtain ⟨hl1, hl2⟩ := hlt
      have t1 : decide ((k : Int) < ps.length) = true := by simp; omega
      have t2 : decide ((k : Int) < 60) = true := by simp; omega
      obtain ⟨p, hp⟩ : ∃ p, ps[k]? = some p := ⟨ps[k], List.getElem?_eq_getElem hl1⟩
      obtain ⟨b, off, rfl, hcell⟩ := HC.out (by rintro rfl; simp at hl1)
      have HCell : Hid (∀ W, Kept [] w W → W.cell? ⟨b, off + k * 2, none⟩ = some (.slice p.ab p.bs.length p.cb) ∧ W.cell? ⟨b, off + k * 2 + 1, none⟩ = some (.slice p.ad p.ds.length p.cd)) := fun W h => ⟨h.cell (hcell k p hp).1 (by simp), h.cell (hcell k p hp).2 (by simp)⟩
      have hgp := HG.out p (List.mem_of_getElem? hp)
      obtain ⟨ab, cb, bs, ad, cd, ts⟩ := p
      obtain ⟨hb, hob, hsb, hd, hot, hst⟩ := hgp
      dsimp only at hb hob hsb hd hot hst HCell
      clear hcell hp
      have HB : Hid (∀ W, Kept [] w W → BytesAt W (.slice ab bs.length cb) bs) := fun W h => hb.kept h (fun _ _ => by simp)
      have HD : Hid (∀ W, Kept [] w W → BytesAt W (.slice ad ts.length cd) ts) := fun W h => hd.kept h (fun _ _ => by simp)
      have HDl : Hid (∀ x, ts ≠ [] → (Value.slice ad ts.length cd).ownBlock = some x → x < w.heap.size) := fun x hne hx => hd.lt hne x (by rw [own_blk_eq]; exact hx)
      have hlend := Lend_any _ bs wr (HB.out _ HF.out.kept) hsb
      obtain ⟨g0, g1⟩ := HCell.out wr HF.out.kept
      clear hb hd
      go_wp2_with fail
      go_at_call 21
      refine hlend.mono ?_
      rintro e w2 ⟨gb, cb2, rfl, lb2, k2⟩
      obtain ⟨_, _, rb1, rb2⟩ := lb2.room
      have HF2 : Hid (Fr w w2 bb lb (4 * k) 6 [gb]) := HF.out.fresh k2 (fun x hx => by rw [List.mem_singleton.1 hx]; exact Or.inr ⟨rb1, rb2⟩)
      have HL2 : Hid (Lent w2 w.heap.size gb cb2 bs) := Lent.low lb2 HF.out.kept.size
      clear hlend k2 lb2 HF g0 g1 rb1 rb2
      go_wp2
      go_loopw [7, 8, 9, 10, 11] (fun s7 _ _ _ _ wq => ∃ j : Nat, j ≤ 2 ∧ s7 = .int .i64 j ∧ Hid (Fr w wq bb lb (4 * k + 2 * j) (6 + 2 * j) [gb] ∧ Lent wq w.heap.size gb cb2 bs)) (fun s7 _ _ _ _ _ => 2 - (intOf s7).toNat)
      case atStart => exact ⟨0, by omega, rfl, HF2.out, HL2.out⟩
      case round =>
        clear HF2 HL2
        obtain ⟨j, hj, rfl, HS⟩ := hrel
        have HF : Hid (Fr w wr bb lb (4 * k + 2 * j) (6 + 2 * j) [gb]) := HS.out.1
        have HL : Hid (Lent wr w.heap.size gb cb2 bs) := HS.out.2
        clear HS
        obtain ⟨g0, g1⟩ := HCell.out wr HF.out.kept
        have i0 : (0 : Int) ≤ k := by omega
        have i1 : (k : Int) < ps.length := by omega
        by_cases hjl : j < 2
        · have t3 : decide ((j : Int) < 2) = true := by simp; omega
          by_cases hlong : bs.length ≤ 65536 ∧ ts.length ≤ 65536
          · obtain ⟨hsb2, hst2⟩ := hlong
            have hmk := Make_ok HL.out.bytes hob hsb2 (HD.out _ HF.out.kept) hot hst2
            have hnum := fun W => num7_any 0 W
            go_wp2_with fail
            go_at_call 22
            refine hmk.mono ?_
            rintro e w4 ⟨k4, ⟨q, rfl, hq, hqn⟩, hap, _, hod, hsh⟩
            have hsh1 := hsh _ _ (lcpN_is _ _) (lcsN_is _ _)
            have hdl : (dlL bs ts).length ≤ 70000 := by omega
            have HF4 : Hid (Fr w w4 bb lb (4 * k + 2 * j) (6 + 2 * j) [q, gb]) := HF.out.fresh k4 (fun x hx => by
              rcases List.mem_cons.1 hx with h | h
              · rw [h]; exact Or.inr ⟨hqn, lt_of_block hq⟩
              · exact Or.inl h)
            have HL4 : Hid (Lent w4 w.heap.size gb cb2 bs) := Lent.kept HL.out k4 (by simp)
            have hgbq : gb < wr.heap.size := HL.out.room.2.2.2
            have HO4 : Hid (OwnB w4 w.heap.size (.slice (some ⟨q, 0, none⟩) (dlL bs ts).length (dlL bs ts).length) (dlL bs ts)) := row_own hq (Nat.le_trans HF.out.kept.size hqn) (by omega)
            have HQ : Hid (gb < q ∧ q < w4.heap.size) := ⟨by omega, lt_of_block hq⟩
            generalize dlL bs ts = ds at *
            have hapc := Apply_own HL4.out.bytes HO4.out.bytes hod (by omega) (0, ts) hap.symm
            clear hmk k4 hq hqn hsh hsh1 HF HL hgbq g0 g1
            go_wp2_with fail
            go_at_call 23
            refine (hnum _).mono ?_
            rintro e w5 ⟨rfl, hw5⟩
            subst w5
            go_wp2_with fail
            go_at_call 25
            refine hapc.mono ?_
            rintro e w5 ⟨v1, rfl, o5, k5⟩
            dsimp only at o5
            obtain ⟨at5, ct5, rfl⟩ := own_shape o5
            have hoB := World.ownsRow.lt o5
            have HF5 : Hid (Fr w w5 bb lb (4 * k + 2 * j) (6 + 2 * j) (q :: ((Value.slice at5 ts.length ct5).ownBlock.toList ++ [gb]))) := HF4.out.fresh k5 (fun x hx => by
              rcases List.mem_cons.1 hx with h | h
              · exact Or.inl (by simp [h])
              · rcases List.mem_append.1 h with h | h
                · have := hoB x (by simpa using h); exact Or.inr ⟨this.1, this.2⟩
                · exact Or.inl (List.mem_cons_of_mem _ h))
            have HL5 : Hid (Lent w5 w.heap.size gb cb2 bs) := Lent.kept HL4.out k5 (by simp)
            have HO5 : Hid (OwnB w5 w.heap.size (.slice (some ⟨q, 0, none⟩) ds.length ds.length) ds) := OwnB.kept HO4.out k5 (by simp)
            have HT5 : Hid (OwnB w5 w.heap.size (.slice at5 ts.length ct5) ts) := o5.mono HF4.out.kept.size
            have HTB : Hid (∀ x, (Value.slice at5 ts.length ct5).ownBlock = some x → w4.heap.size ≤ x) := fun x hx => (hoB x hx).1
            have heq := Eq_same HT5.out.bytes (HD.out _ HF5.out.kept) (by omega)
            obtain ⟨g0, g1⟩ := HCell.out w5 HF5.out.kept
            clear hapc o5 k5 hoB HF4 HL4 HO4
            go_wp2_with fail
            go_at_call 23
            refine (hnum _).mono ?_
            rintro e w6 ⟨rfl, hw6⟩
            subst w6
            go_wp2_with fail
            go_at_call 19
            refine heq.mono ?_
            rintro e w6 ⟨rfl, n6, rfl⟩
            have k6 : Kept [] w5 (w5.drewN n6) := (Kept.refl [] w5).drewN n6
            have HF6 : Hid (Fr w (w5.drewN n6) bb lb (4 * k + 2 * j) (6 + 2 * j) (q :: ((Value.slice at5 ts.length ct5).ownBlock.toList ++ [gb]))) := HF5.out.fresh k6 (fun x hx => Or.inl hx)
            have HL6 : Hid (Lent (w5.drewN n6) w.heap.size gb cb2 bs) := Lent.kept HL5.out k6 (by simp)
            have HO6 : Hid (OwnB (w5.drewN n6) w.heap.size (.slice (some ⟨q, 0, none⟩) ds.length ds.length) ds) := OwnB.kept HO5.out k6 (by simp)
            have HT6 : Hid (OwnB (w5.drewN n6) w.heap.size (.slice at5 ts.length ct5) ts) := OwnB.kept HT5.out k6 (by simp)
            clear heq k6 HF5 HL5 HO5 HT5 g0 g1
            generalize w5.drewN n6 = w6 at *
            have hqd : ∀ g, (Value.slice (some ⟨q, 0, none⟩) ds.length ds.length).ownBlock = some g → g = q := fun g hg => by simpa [Value.ownBlock, eq_comm] using hg
            have had := add_fr (A2 := (Value.slice at5 ts.length ct5).ownBlock.toList ++ [gb]) HF6.out HO6.out (fun g hg => by
              rw [hqd g hg]
              refine ⟨by simp, fun e => ?_⟩
              have hQ := HQ.out
              rcases List.mem_append.1 e with h | h
              · have := HTB.out q (by simpa using h); omega
              · have := List.mem_singleton.1 h; omega) HO6.out.bytes (fun _ g hg => Or.inl (by rw [hqd g hg]; simp)) (fun x hx => List.mem_cons_of_mem _ hx) hod (by omega) (by omega)
            obtain ⟨g0, g1⟩ := HCell.out w6 HF6.out.kept
            clear hqd
            go_wp2_with fail
            go_at_call 11
            refine had.mono ?_
            rintro e w7 ⟨rfl, fr7, S7, k7, s7, a7⟩
            have HF7 : Hid (Fr w w7 bb lb (4 * k + 2 * j + 1) (6 + 2 * j + 1) ((Value.slice at5 ts.length ct5).ownBlock.toList ++ [gb])) := fr7
            have HL7 : Hid (Lent w7 w.heap.size gb cb2 bs) := Lent.kept HL6.out k7 (a7 gb (by simp))
            have HT7 : Hid (OwnB w7 w.heap.size (.slice at5 ts.length ct5) ts) := OwnB.kept HT6.out k7 (fun x hx => a7 x (by simp [hx]))
            have had2 := add_fr (A2 := [gb]) HF7.out HT7.out (fun g hg => ⟨by simp [hg], fun e => by
              have h1 := HTB.out g hg
              have h2 := HQ.out
              have h3 := List.mem_singleton.1 e
              omega⟩) (HD.out _ HF7.out.kept) (fun hne g hg => Or.inr (HDl.out g hne hg)) (fun x hx => List.mem_append_right _ hx) hot (by omega) (by omega)
            obtain ⟨g2, g3⟩ := HCell.out w7 HF7.out.kept
            clear had fr7 k7 s7 a7 g0 g1 HF6 HL6 HO6 HT6
            go_wp2_with fail
            go_at_call 11
            refine had2.mono ?_
            rintro e w8 ⟨rfl, fr8, S8, k8, s8, a8⟩
            have HF8 : Hid (Fr w w8 bb lb (4 * k + 2 * (j + 1)) (6 + 2 * (j + 1)) [gb]) := fr8
            have HL8 : Hid (Lent w8 w.heap.size gb cb2 bs) := Lent.kept HL7.out k8 (a8 gb (by simp))
            clear had2 fr8 k8 s8 a8 g2 g3
            go_wp2
            go_roundw
            case rel => exact ⟨j + 1, by omega, by go_num, HF8.out, HL8.out⟩
            case measure => simp [intOf]; omega
          · have hmk := Make_long HL.out.bytes hob (by omega) (HD.out _ HF.out.kept) hot (by omega) (by omega)
            have hnum := fun W => num7_any 73 W
            go_wp2_with fail
            go_at_call 22
            refine hmk.mono ?_
            rintro e w4 ⟨rfl, k4⟩
            have HF4 : Hid (Fr w w4 bb lb (4 * k + 2 * (j + 1)) (6 + 2 * (j + 1)) [gb]) := (HF.out.fresh k4 (fun x hx => Or.inl hx)).mono (by omega) (by omega)
            have HL4 : Hid (Lent w4 w.heap.size gb cb2 bs) := Lent.kept HL.out k4 (by simp)
            clear hmk k4 HF HL g0 g1
            go_wp2_with fail
            go_at_call 23
            refine (hnum _).mono ?_
            rintro e w5 ⟨rfl, hw5⟩
            subst w5
            go_wp2
            go_roundw
            case rel => exact ⟨j + 1, by omega, by go_num, HF4.out, HL4.out⟩
            case measure => simp [intOf]; omega
        · have t3 : decide ((j : Int) < 2) = false := by simp; omega
          obtain rfl : j = 2 := by omega
          have hset := settle_fr HF.out 7 (by omega)
          go_wp2_with fail
          go_at_call 17
          refine hset.mono ?_
          rintro e w4 ⟨rfl, fr4, S4, k4, s4, a4⟩
          have hlk := look_fr fr4 (by omega)
          have HL4 : Hid (Lent w4 w.heap.size gb cb2 bs) := Lent.kept HL.out k4 (a4 gb (by simp))
          clear hset fr4 k4 s4 a4 HF HL g0 g1
          go_wp2_with fail
          go_at_call 18
          refine hlk.mono ?_
          rintro e w5 ⟨rfl, fr5, S5, k5, s5, a5⟩
          have HF5 : Hid (Fr w w5 bb lb (4 * (k + 1)) 6 []) := (fr5.fresh (Kept.refl _ _) (fun x hx => by simp at hx)).mono (by omega) (by omega)
          have HL5 : Hid (Lent w5 w.heap.size gb cb2 bs) := Lent.kept HL4.out k5 (a5 gb (by simp))
          have hint := Intact_any HL5.out (HB.out _ fr5.kept) hsb
          obtain ⟨g0, g1⟩ := HCell.out w5 fr5.kept
          clear hlk fr5 k5 s5 a5 HL4
          go_wp2_with fail
          go_at_call 27
          refine hint.mono ?_
          rintro e w6 ⟨rfl, hw6⟩
          subst w6
          clear hint g0 g1
          go_wp2
          go_roundw
          case rel => exact ⟨k + 1, by omega, by omega, by go_num, HF5.out⟩
          case measure => simp [intOf]; omega
    · have hset := settle_fr HF.out 0 (by omega)
      by_cases hl1 : k < ps.length
      · have t1 : decide ((k : Int) < ps.length) = true := by simp; omega
        have t2 : decide ((k : Int) < 60) = false := by simp; omega
        go_wp2_with fail
        go_at_call 17
        refine hset.mono ?_
        rintro e w4 ⟨rfl, fr4, _⟩
        have HK4 : Hid (Kept [] w w4) := fr4.kept
        clear hset fr4
        go_wp2
        go_ret
        exact ⟨rfl, HK4.out⟩
      · have t1 : decide ((k : Int) < ps.length) = false := by simp; omega
        go_wp2_with fail
        go_at_call 17
        refine hset.mono ?_
        rintro e w4 ⟨rfl, fr4, _⟩
        have HK4 : Hid (Kept [] w w4) := fr4.kept
        clear hset fr4
        go_wp2
        go_ret
        exact ⟨rfl, HK4.out⟩
end Go.Proofs.Ytldhbcppnoldiaa
