/-
  WALK: satchellaw1.CodeFresh, for every script that is not too long.
-/
import Derived.Test.YtmambfdfkobjgaaCf0
import Derived.Test.YtmambfdfkobjgaaOpen
namespace Go.Proofs.Ytmambfdfkobjgaa
open Go.RowKit

theorem sumF_take (ops : List COp) (k : Nat) (o : COp) (h : ops[k]? = some o) : sumB (ops.take (k + 1)) = sumB (ops.take k) + o.b.length ∧ sumB (ops.take k) + o.b.length ≤ sumB ops := by
  have hlt : k < ops.length := (List.getElem?_eq_some_iff.1 h).1
  have ho : ops[k] = o := (List.getElem?_eq_some_iff.1 h).2
  have e1 : sumB (ops.take (k + 1)) = sumB (ops.take k) + o.b.length := by
    rw [List.take_succ_eq_append_getElem hlt, ho]
    simp [sumB]
  have e2 : sumB ops = sumB (ops.take (k + 1)) + sumB (ops.drop (k + 1)) := by
    unfold sumB
    rw [← List.sum_append, ← List.map_append, List.take_append_drop]
  exact ⟨e1, by omega⟩
theorem sumF_le (ops : List COp) (k : Nat) : sumB (ops.take k) ≤ sumB ops := by
  have e2 : sumB ops = sumB (ops.take k) + sumB (ops.drop k) := by
    unfold sumB
    rw [← List.sum_append, ← List.map_append, List.take_append_drop]
  omega
theorem wpList_built {ops : Array Oper} {rest : List Oper} {o : Oper} {a : Act} {w : World} {Q : Exit → Act → World → Prop} (hg : o.guard = none) (t : TypeId) (parts : Array (Nat × Operand)) (ho : o.op = .build t parts) (A : Array Value)
    (hb : Try.prog.built t (parts.map fun (i, x) => (i, a.eval x)).toList = some A) (h : wpList Try.prog ops Q rest (a.put o.dst (.agg A)) w) : wpList Try.prog ops Q (o :: rest) a w :=
  wpList_build hg t parts ho (by rw [hb]; rfl) (by rw [hb]; exact h)
theorem wat_octs {w : World} {wb B : Nat} {zs : List Int} {S : List Nat} (h : WAt w wb B zs S) : Octs zs := by
  obtain ⟨_, _, _, _, _, _, h, _⟩ := h
  exact h
/-- The law's state ahead of its first step. -/
theorem CF.start {w w1 w3 : World} {sc : Array Value} {r g : Nat} {ao : Option Addr} {cap : Nat} {xs : List Int} (hx : BytesAt w (.slice ao xs.length cap) xs) (ho : Octs xs) (hs : xs.length ≤ 140737488355328)
    (k1 : Kept [] w w1) (k3 : Kept [] w1 w3) (h1 : w1.heap[w.heap.size]? = some (.cells sc 26 (0, 0))) (hA : WAt w1 (w.heap.size + 1) (w.heap.size + 1) [] [w.heap.size + 1]) (hR : Rdr w3 r g xs 0 0) (hr : w1.heap.size ≤ r) (hg : w1.heap.size ≤ g) :
    CF w (((w3.alloc (.cells #[.slice ao xs.length cap, .int .i64 0, .int .i64 0] 34)).alloc (.cells (bookC (.slice none 0 0) (.slice none 0 0) 0 0 0 0) 49)).alloc (.cells #[.slice none 0 0, .slice none 0 0, .slice none 0 0, .slice none 0 0] 52))
      sc (w3.heap.size + 1) (w3.heap.size + 1 + 1) (w.heap.size + 1) r g w3.heap.size ao cap (.slice none 0 0) [] xs [w.heap.size + 1] 0 0 0 0 0 0 [] [] := by
  have hz := (hA.lt _ (List.mem_singleton.2 rfl)).2
  have l1 := lt_of_block hR.blk
  have l2 := lt_of_block hR.row
  have s3 := k3.size
  have hx3 := hx.kept (k1.then k3) (fun _ _ => by simp)
  have he := EyeG.mk1 hx3 ho hs
  have k4 : Kept [] w3 (w3.alloc (.cells #[.slice ao xs.length cap, .int .i64 0, .int .i64 0] 34)) := (Kept.refl _ _).alloc _
  have s4 : (w3.alloc (.cells #[.slice ao xs.length cap, .int .i64 0, .int .i64 0] 34)).heap.size = w3.heap.size + 1 := World.size_alloc _ _
  have hf : ∀ x, x ∈ foot (.slice none 0 0) [w.heap.size + 1] ↔ x = w.heap.size + 1 := fun x => by simp [mem_foot, Value.ownBlock]
  have hF := Fr.newA w (w3.alloc (.cells #[.slice ao xs.length cap, .int .i64 0, .int .i64 0] 34)) ((k1.then k3).then k4) (cfA w.heap.size r g w3.heap.size (foot (.slice none 0 0) [w.heap.size + 1]) [] []) (fun x hx => by
    simp only [cfA, List.mem_cons, List.mem_append, List.not_mem_nil, or_false, hf] at hx
    omega)
  rw [s4] at hF
  have k5 : Kept [] (w3.alloc (.cells #[.slice ao xs.length cap, .int .i64 0, .int .i64 0] 34)) (((w3.alloc (.cells #[.slice ao xs.length cap, .int .i64 0, .int .i64 0] 34)).alloc (.cells (bookC (.slice none 0 0) (.slice none 0 0) 0 0 0 0) 49)).alloc (.cells #[.slice none 0 0, .slice none 0 0, .slice none 0 0, .slice none 0 0] 52)) := ((Kept.refl _ _).alloc _).alloc _
  refine ⟨k5.heap (k4.heap (k3.heap h1 (by simp)) (by simp)) (by simp), ⟨((hA.kept k3 (by simp)).kept k4 (by simp)).kept k5 (by simp), World.ownsRow_nil _ _ _ _, fun x hx => by simp [Value.ownBlock] at hx⟩, (hR.kept k4 (by simp) (by simp)).kept k5 (by simp) (by simp), he.kept0 k5, hF, ?_, ?_, ?_, by omega, by omega, by omega, by omega, by omega, fun hne k hk => hx.blk_lt hne k hk, fun p hp => by simp at hp⟩
  all_goals (rw [hf]; omega)

set_option maxRecDepth 100000 in
set_option maxHeartbeats 8000000 in
theorem cfresh_any (w : World) (ao0 : Option Addr) (c0 : Nat) (xs : List Int) (v1' : Value) (ao2 : Option Addr) (c2 : Nat) (ops : List COp) (hx : BytesAt w (.slice ao0 xs.length c0) xs) (hox : Octs xs) (hsx : xs.length ≤ 50000000000) (hops : OpsAt w (.slice ao2 ops.length c2) ops) (hgd : ∀ o, o ∈ ops → COp.Good o w) (hsum : sumB ops + 5000 ≤ 50000000000) :
    Calls Try.prog 3 #[.agg #[.slice ao0 xs.length c0, v1', .slice ao2 ops.length c2]] w fun e w' => e = .returned (.bool true) ∧ Kept [] w w' := by
  obtain ⟨ao, cap, hv, hl, hc⟩ := hops
  simp only [Value.slice.injEq] at hv
  obtain ⟨rfl, _, rfl⟩ := hv
  have HX : Hid (BytesAt w (.slice ao0 xs.length c0) xs) := hx
  have HC : Hid _ := hc
  have HG : Hid (∀ o, o ∈ ops → COp.Good o w) := hgd
  clear hc hgd hx
  go_enter Try.func3, Try.ntmps3
  go_wp2_with fail
  go_at_call 5
  refine (New_any _ (w.heap.size + 1) (by simp)).mono ?_
  rintro e w1 ⟨rfl, hA1, hk1⟩
  rw [World.size_alloc] at hA1
  have HA1 : Hid (WAt w1 (w.heap.size + 1) (w.heap.size + 1) [] [w.heap.size + 1]) := hA1
  have HK1 : Hid (Kept [] w w1) := ((Kept.refl [] w).alloc _).then hk1
  have HS1 : Hid (w1.heap[w.heap.size]? = some (.cells #[.slice ao0 xs.length c0, v1', .slice ao2 ops.length c2] 26 (0, 0))) := hk1.heap (heap_alloc_new w _) (by simp)
  have z1 : w.heap.size < w1.heap.size := by have := (hA1.lt _ (List.mem_singleton.2 rfl)).2; omega
  have c1 : w1.cell? ⟨w.heap.size, 0, none⟩ = some (.slice ao0 xs.length c0) := cell_of_row _ _ _ _ _ _ HS1.out
  have hcopy := Copy_any _ xs w1 (HX.out.kept HK1.out (fun _ _ => by simp)) (by omega)
  clear hA1 hk1
  go_wp2_with fail
  go_at_call 7
  refine hcopy.mono ?_
  rintro e w2 ⟨rfl, hq2, k2⟩
  have hread := Read_any _ xs w2 (row_bytes2 hq2) (by omega) hox
  have HK2 : Hid (Kept [] w1 w2) := k2
  clear hcopy hq2 k2 c1
  go_wp2_with fail
  go_at_call 6
  refine hread.mono ?_
  rintro e w3 ⟨r, g, rfl, hR, k3, hr3, hg3⟩
  have s2 := HK2.out.size
  have HK13 : Hid (Kept [] w1 w3) := HK2.out.then k3
  have s3 := HK13.out.size
  have z3 : w.heap.size < w3.heap.size := by omega
  have c3 : w3.cell? ⟨w.heap.size, 0, none⟩ = some (.slice ao0 xs.length c0) := cell_of_row _ _ _ _ _ _ (HK13.out.heap HS1.out (by simp))
  have hst := CF.start HX.out hox (by omega) HK1.out HK13.out HS1.out HA1.out hR (by omega) (by omega)
  obtain ⟨BC, hBC⟩ : ∃ A, A = bookC (.slice none 0 0) (.slice none 0 0) 0 0 0 0 := ⟨_, rfl⟩
  obtain ⟨LC, hLC⟩ : ∃ A : Array Value, A = #[.slice none 0 0, .slice none 0 0, .slice none 0 0, .slice none 0 0] := ⟨_, rfl⟩
  rw [← hBC, ← hLC] at hst
  obtain ⟨sc, hsc0⟩ : ∃ A : Array Value, A = #[.slice ao0 xs.length c0, v1', .slice ao2 ops.length c2] := ⟨_, rfl⟩
  rw [← hsc0] at hst
  have HSC : Hid (sc = #[.slice ao0 xs.length c0, v1', .slice ao2 ops.length c2]) := hsc0
  have HBC : Hid (BC = bookC (.slice none 0 0) (.slice none 0 0) 0 0 0 0) := hBC
  have HLC : Hid (LC = #[.slice none 0 0, .slice none 0 0, .slice none 0 0, .slice none 0 0]) := hLC
  have HI : Hid _ := hst
  clear hsc0 hst hread hR k3 hr3 hg3 s2 s3 hBC hLC HA1 HS1 HK13 HK2 HK1 z1
  go_wp2_with (first
    | (refine wpList_built (by rfl) 49 #[] (by rfl) BC (by rw [HBC.out]; kernel_rfl) ?_)
    | (refine wpList_built (by rfl) 52 #[] (by rfl) LC (by rw [HLC.out]; kernel_rfl) ?_))
  -- the loop
  generalize hob : w.heap.size + 1 = wb at *
  generalize heb : w3.heap.size = eb at *
  generalize hbb : eb + 1 = bb at *
  generalize hlb : bb + 1 = lb at *
  clear hob heb hbb hlb
  go_loopw [8, 9] (fun s8 s9 wr => ∃ (k : Nat) (ah : Option Addr) (ch : Nat) (zs : List Int) (S : List Nat) (p f : Nat), k ≤ ops.length ∧ k ≤ 400 ∧ s8 = .slice ah zs.length ch ∧ s9 = .int .i64 k ∧ zs.length ≤ sumB (ops.take k) + 10 * k ∧ Hid (CF w wr sc bb lb wb r g eb ao0 c0 (Value.slice ah zs.length ch) zs xs S p f p f (4 * k) (6) [] [])) (fun _ s9 _ => ops.length - (intOf s9).toNat)
  case atStart => exact ⟨0, none, 0, [], _, 0, 0, Nat.zero_le _, by omega, rfl, rfl, by simp, HI.out.drop (by omega) (by omega)⟩
  case round =>
    clear HI
    obtain ⟨k, ah, ch, zs, S, p, f, hkk, hk4, rfl, rfl, hz, HF⟩ := hrel
    have hsc : wr.cell? ⟨w.heap.size, 2, none⟩ = some (.slice ao2 ops.length c2) := by have h : wr.cell? ⟨w.heap.size, 2, none⟩ = sc[2]? := cell_of_row _ _ _ _ _ _ HF.out.sb; rw [HSC.out] at h; exact h
    have b1 : w.heap.size < wr.heap.size := lt_of_block HF.out.sb
    have KW := HF.out.kept
    by_cases hgo : k < ops.length ∧ k < 400
    · obtain ⟨hlt, h400⟩ := hgo
      obtain ⟨b2', off2, rfl, hops⟩ := HC.out (by rintro rfl; simp at hlt)
      obtain ⟨o, hko⟩ : ∃ o, ops[k]? = some o := ⟨_, List.getElem?_eq_getElem hlt⟩
      have hgo := HG.out o (List.mem_of_getElem? hko)
      have hsb := sumF_take ops k o hko
      have HSB : Hid (sumB (ops.take (k + 1)) = sumB (ops.take k) + o.b.length ∧ sumB (ops.take k) + o.b.length ≤ sumB ops) := hsb
      obtain ⟨q0, q1, q2, q3, q4⟩ := hops k o hko
      replace q0 := KW.cell q0 (by simp)
      replace q1 := KW.cell q1 (by simp)
      replace q2 := KW.cell q2 (by simp)
      replace q3 := KW.cell q3 (by simp)
      replace q4 := KW.cell q4 (by simp)
      have t1 : decide ((k : Int) < ops.length) = true := by simp; omega
      have t2 : decide ((k : Int) < 400) = true := by simp; omega
      have hB := HF.out.boxed o.cells
      have hm0 := hgo.m0
      have hm1 := hgo.m1
      have HWR : Hid (Calls Try.prog 8 #[.pointer (some ⟨wb, 0, none⟩), .slice ah zs.length ch, .agg #[.int .i64 o.kind, .int .i64 o.which, .int .i64 o.m, .int .u64 o.n, .slice o.ao o.b.length o.cap]] (wr.alloc (.cells #[.int .i64 o.kind, .int .i64 o.which, .int .i64 o.m, .int .u64 o.n, .slice o.ao o.b.length o.cap] 55)) fun e w' => WritesTo (wr.alloc (.cells #[.int .i64 o.kind, .int .i64 o.which, .int .i64 o.m, .int .u64 o.n, .slice o.ao o.b.length o.cap] 55)) w' wb (w.heap.size + 1) (.slice ah zs.length ch) zs S o.b.length e) := by
        have kk : Kept [] wr (wr.alloc (.cells #[.int .i64 o.kind, .int .i64 o.which, .int .i64 o.m, .int .u64 o.n, .slice o.ao o.b.length o.cap] 55)) := (Kept.refl _ _).alloc _
        exact writes_any hB.duo (Nat.le_trans (by omega) kk.size) o hgo.n0 hgo.n1 ((hgo.at'.kept KW (fun _ _ => by simp)).kept kk (fun _ _ => by simp)) hgo.oct (fun hn b hb hm => absurd (HF.out.duo.lt b hm).1 (by have := hgo.at'.blk_lt hn b hb; omega)) (by omega)
      have HB : Hid _ := hB
      have b2 : w.heap.size < w.heap.size + 1 := by omega
      clear hgo hko hops hB KW
      go_wp2_with fail
      go_at_call 8
      refine HWR.out.mono ?_
      rintro e w7 ⟨v', zs', S', rfl, hT, hz'⟩
      obtain ⟨ao', cp', rfl⟩ := own_shape hT.duo.own
      have C7 := HB.out.wrote hT
      generalize hob : wr.heap.size = ob at *
      have hbig : ob < w7.heap.size := lt_of_block (C7.bx _ (List.mem_singleton.2 rfl)).1
      have HZ : Hid (zs'.length ≤ zs.length + o.b.length + 10) := hz'
      have hzl : zs'.length ≤ 100000000000 := by omega
      have x0 : w7.cell? ⟨ob, 0, none⟩ = some (.int .i64 o.kind) := cell_of_row _ _ _ _ _ _ (C7.bx _ (List.mem_singleton.2 rfl)).1; have x2 : w7.cell? ⟨ob, 2, none⟩ = some (.int .i64 o.m) := cell_of_row _ _ _ _ _ _ (C7.bx _ (List.mem_singleton.2 rfl)).1
      have HC7 : Hid (CF w w7 sc bb lb wb r g eb ao0 c0 (Value.slice ao' zs'.length cp') zs' xs S' p f p f (4 * k) (6) [(ob, o.cells)] []) := C7
      clear hT hz' C7 HWR HB HF q0 q1 q2 q3 q4 hsc b1 b2 hob
      by_cases hd : o.kind = 5 ∨ o.kind = 6
      · obtain ⟨y1, hy1⟩ : ∃ y, Hid (y = takeL xs p f 2 0 (max o.m 0)) := ⟨_, rfl⟩
        have hby := Bytes_any HC7.out.rd o.m hm1 y1 hy1
        have hi0 : 0 ≤ o.m % 5 := Int.emod_nonneg _ (by decide)
        have hi1 : o.m % 5 < 5 := Int.emod_lt_of_pos _ (by decide)
        have hinto := fun W => into_any o.m 5 W (by decide) (by decide) hm0 hm1
        have HM : Hid (-9223372036854775808 ≤ o.m ∧ o.m ≤ 9223372036854775807) := ⟨hm0, hm1⟩
        have ho1 : Octs y1.text := by rw [hy1.out]; exact text_octs _ hox _ _ _ _ _
        have hl1 : y1.text.length ≤ 50000000000 := by rw [hy1.out]; exact Nat.le_trans (take_len _ _ _ _ _ _) hsx
        have HO1 : Hid (Octs y1.text) := ho1
        clear ho1
        rcases hd with hd | hd
        all_goals (
          rw [hd] at x0
          go_wp2_with fail
          go_at_call 9
          refine hby.mono ?_
          rintro e w8 ⟨q8, rfl, hq8, hn8, hR8, k8⟩
          obtain ⟨C8, N8⟩ := HC7.out.read hR8 k8 hn8 (lt_of_block hq8)
          have HL8 : Hid (w.heap.size ≤ q8) := Nat.le_trans HC7.out.kept.size hn8
          have xa0 : w8.cell? ⟨ob, 0, none⟩ = some (.int .i64 o.kind) := cell_of_row _ _ _ _ _ _ (C8.bx _ (List.mem_singleton.2 rfl)).1; have xa2 : w8.cell? ⟨ob, 2, none⟩ = some (.int .i64 o.m) := cell_of_row _ _ _ _ _ _ (C8.bx _ (List.mem_singleton.2 rfl)).1
          have hbig8 : ob < w8.heap.size := lt_of_block (C8.bx _ (List.mem_singleton.2 rfl)).1
          have HC8 : Hid _ := C8
          have HN8 : Hid _ := N8
          have HQ8 : Hid _ := hq8
          have htx := ETextG_any HC8.out.eye o.m HM.out.1 HM.out.2 y1 hy1
          clear hby hq8 hn8 hR8 k8 C8 N8 x0 x2 hbig HC7
          go_wp2_with fail
          go_at_call 11
          refine htx.mono ?_
          rintro e w9 ⟨u9, rfl, hu9, hE9, k9, f9⟩
          have hqe : q8 ≠ eb := fun e => HN8.out eb cfA_e e.symm
          have hq9 := k9.heap HQ8.out (by simpa using hqe)
          have had := (HC8.out.eyed hE9 k9 hu9 f9).add (q := q8) (ys := y1.text) (u := u9) (by simp) hq9 HN8.out HL8.out hu9 (fun hne x hx => Or.inr (by simp [ub, hne, hx])) HO1.out (by omega) (by omega)
          clear htx hu9 hE9 k9 f9 hqe hq9 HC8 HQ8 HN8 HL8 xa0 xa2 hbig8
          go_wp2_with fail
          go_at_call 10
          refine had.mono ?_
          rintro e w10 ⟨rfl, C10⟩
          have xb0 : w10.cell? ⟨ob, 0, none⟩ = some (.int .i64 o.kind) := cell_of_row _ _ _ _ _ _ (C10.bx _ (List.mem_singleton.2 rfl)).1; have xb2 : w10.cell? ⟨ob, 2, none⟩ = some (.int .i64 o.m) := cell_of_row _ _ _ _ _ _ (C10.bx _ (List.mem_singleton.2 rfl)).1
          have hbig10 : ob < w10.heap.size := lt_of_block (C10.bx _ (List.mem_singleton.2 rfl)).1
          have HC10 : Hid (CF w w10 sc bb lb wb r g eb ao0 c0 (Value.slice ao' zs'.length cp') zs' xs S' y1.pl y1.f y1.pl y1.f (4 * k + 1) (6 + 1) [(ob, o.cells)] []) := C10
          obtain ⟨y2, hy2⟩ : ∃ y, Hid (y = takeL xs y1.pl y1.f 3 (o.m % 5) 0) := ⟨_, rfl⟩
          have hrw := Raw_any HC10.out.rd (o.m % 5) (by omega) y2 hy2
          have ho2 : Octs y2.text := by rw [hy2.out]; exact text_octs _ hox _ _ _ _ _
          have hl2 : y2.text.length ≤ 50000000000 := by rw [hy2.out]; exact Nat.le_trans (take_len _ _ _ _ _ _) hsx
          have HO2 : Hid (Octs y2.text) := ho2
          clear had C10 ho2
          go_wp2_with fail
          go_at_call 13
          refine (hinto _).mono ?_
          rintro e w11 ⟨rfl, hw11⟩
          subst w11
          go_wp2_with fail
          go_at_call 12
          refine hrw.mono ?_
          rintro e w12 ⟨q12, rfl, hq12, hn12, hR12, k12⟩
          obtain ⟨C12, N12⟩ := HC10.out.read hR12 k12 hn12 (lt_of_block hq12)
          have HL12 : Hid (w.heap.size ≤ q12) := Nat.le_trans HC10.out.kept.size hn12
          have xc0 : w12.cell? ⟨ob, 0, none⟩ = some (.int .i64 o.kind) := cell_of_row _ _ _ _ _ _ (C12.bx _ (List.mem_singleton.2 rfl)).1; have xc2 : w12.cell? ⟨ob, 2, none⟩ = some (.int .i64 o.m) := cell_of_row _ _ _ _ _ _ (C12.bx _ (List.mem_singleton.2 rfl)).1
          have hbig12 : ob < w12.heap.size := lt_of_block (C12.bx _ (List.mem_singleton.2 rfl)).1
          have HC12 : Hid _ := C12
          have HN12 : Hid _ := N12
          have HQ12 : Hid _ := hq12
          have her := ERaw0_any HC12.out.eye (o.m % 5) hi0 (by omega) y2 hy2
          clear hrw hq12 hn12 hR12 k12 C12 N12 xb0 xb2 hbig10 HC10
          go_wp2_with fail
          go_at_call 13
          refine (hinto _).mono ?_
          rintro e w13 ⟨rfl, hw13⟩
          subst w13
          go_wp2_with fail
          go_at_call 14
          refine her.mono ?_
          rintro e w14 ⟨u14, rfl, hu14, hE14, k14, f14⟩
          have hqe : q12 ≠ eb := fun e => HN12.out eb cfA_e e.symm
          have hq14 := k14.heap HQ12.out (by simpa using hqe)
          have had2 := (HC12.out.eyed hE14 k14 hu14 f14).add (q := q12) (ys := y2.text) (u := u14) (by simp) hq14 HN12.out HL12.out hu14 (fun hne x hx => Or.inr (by simp [ub, hne, hx])) HO2.out (by omega) (by omega)
          clear her hu14 hE14 k14 f14 hqe hq14 HC12 HQ12 HN12 HL12 xc0 xc2 hbig12
          go_wp2_with fail
          go_at_call 10
          refine had2.mono ?_
          rintro e w15 ⟨rfl, C15⟩
          have HC15 : Hid (CF w w15 sc bb lb wb r g eb ao0 c0 (Value.slice ao' zs'.length cp') zs' xs S' y2.pl y2.f y2.pl y2.f (4 * k + 2) (8) [(ob, o.cells)] []) := C15
          clear had2 C15 hinto
          go_wp2
          go_loopw [15] (fun s15 wq => ∃ j : Nat, j ≤ 2 ∧ s15 = .int .i64 j ∧ Hid (CF w wq sc bb lb wb r g eb ao0 c0 (Value.slice ao' zs'.length cp') zs' xs S' y2.pl y2.f y2.pl y2.f (4 * k + 2 + j) (8 + j) [(ob, o.cells)] [])) (fun s15 _ => 2 - (intOf s15).toNat)
          case atStart => exact ⟨0, by omega, rfl, HC15⟩
          case round =>
            clear HC15
            obtain ⟨j, hj, rfl, HCj⟩ := hrel
            by_cases hjl : j < 2
            · have t3 : decide ((j : Int) < 2) = true := by simp; omega
              have hout := WOut_any HCj.out.duo.wr (by omega)
              go_wp2_with fail
              go_at_call 15
              refine hout.mono ?_
              rintro e w16 ⟨rfl, hq16, k16⟩
              obtain ⟨C16, N16⟩ := HCj.out.out k16 (Nat.le_refl _) (lt_of_block hq16)
              have had3 := C16.add (List.mem_singleton.2 rfl) hq16 N16 HCj.out.kept.size C16.duo.own.bytes (fun _ x hx => Or.inl (mem_foot.2 (Or.inr hx))) (wat_octs C16.duo.wr) hzl (by omega)
              clear hout hq16 k16 C16 N16
              go_wp2_with fail
              go_at_call 10
              refine had3.mono ?_
              rintro e w17 ⟨rfl, C17⟩
              have HC17 : Hid _ := C17
              clear had3 C17 HCj
              go_wp2
              go_roundw
              case rel => exact ⟨j + 1, by omega, by go_num, HC17⟩
              case measure => simp [intOf]; omega
            · have t3 : decide ((j : Int) < 2) = false := by simp; omega
              obtain rfl : j = 2 := by omega
              have hset := HCj.out.settle 6 (by omega)
              go_wp2_with fail
              go_at_call 16
              refine hset.mono ?_
              rintro e w20 ⟨rfl, C20⟩
              have hlk := C20.look (by omega)
              clear hset C20
              go_wp2_with fail
              go_at_call 17
              refine hlk.mono ?_
              rintro e w21 ⟨rfl, C21⟩
              have HC21 : Hid (CF w w21 sc bb lb wb r g eb ao0 c0 (Value.slice ao' zs'.length cp') zs' xs S' y2.pl y2.f y2.pl y2.f (4 * (k + 1)) (6) [] []) := C21.drop (by omega) (by omega)
              clear hlk C21
              go_wp2
              go_roundw
              case rel => exact ⟨k + 1, ao', cp', zs', S', y2.pl, y2.f, by omega, by omega, rfl, by go_num, by have := HZ.out; rw [HSB.out.1]; omega, HC21⟩
              case measure => simp [intOf]; omega
          )
      · have h5 : ¬ o.kind = 5 := fun e => hd (Or.inl e)
        have h6 : ¬ o.kind = 6 := fun e => hd (Or.inr e)
        clear hd
        have hset := HC7.out.settle 6 (by omega)
        go_wp2_with fail
        go_at_call 16
        refine hset.mono ?_
        rintro e w20 ⟨rfl, C20⟩
        have hlk := C20.look (by omega)
        clear hset C20
        go_wp2_with fail
        go_at_call 17
        refine hlk.mono ?_
        rintro e w21 ⟨rfl, C21⟩
        have HC21 : Hid (CF w w21 sc bb lb wb r g eb ao0 c0 (Value.slice ao' zs'.length cp') zs' xs S' p f p f (4 * (k + 1)) (6) [] []) := C21.drop (by omega) (by omega)
        clear hlk C21
        go_wp2
        go_roundw
        case rel => exact ⟨k + 1, ao', cp', zs', S', p, f, by omega, by omega, rfl, by go_num, by have := HZ.out; rw [HSB.out.1]; omega, HC21⟩
        case measure => simp [intOf]; omega
    · have hle := sumF_le ops k
      have hm0 : zs.length ≤ 140737488355328 := by omega
      have hset := HF.out.settle 0 (by omega)
      by_cases hlt : k < ops.length
      · have t1 : decide ((k : Int) < ops.length) = true := by simp; omega
        have t2 : decide ((k : Int) < 400) = false := by simp; omega
        clear hz hle hsum KW HF HC HG hgo
        go_wp2_with fail
        go_at_call 16
        refine hset.mono ?_
        rintro e w4 ⟨rfl, C4⟩
        have hout := WOut_any C4.duo.wr hm0
        have HC4 : Hid _ := C4
        clear hset C4
        go_wp2_with fail
        go_at_call 15
        refine hout.mono ?_
        rintro e w5 ⟨rfl, hq5, k5⟩
        have HK5 : Hid (Kept [] w w5) := HC4.out.kept.then k5
        have heq := Eq_same (row_bytes2 hq5) (HC4.out.duo.box k5).own.bytes hm0
        clear hout hq5 k5 HC4
        go_wp2_with fail
        go_at_call 18
        refine heq.mono ?_
        rintro e w6 ⟨rfl, n6, rfl⟩
        clear heq
        go_wp2
        go_ret
        exact ⟨rfl, HK5.out.then ((Kept.refl _ _).drewN n6)⟩
      · have t1 : decide ((k : Int) < ops.length) = false := by simp; omega
        clear hz hle hsum KW HF HC HG hgo
        go_wp2_with fail
        go_at_call 16
        refine hset.mono ?_
        rintro e w4 ⟨rfl, C4⟩
        have hout := WOut_any C4.duo.wr hm0
        have HC4 : Hid _ := C4
        clear hset C4
        go_wp2_with fail
        go_at_call 15
        refine hout.mono ?_
        rintro e w5 ⟨rfl, hq5, k5⟩
        have HK5 : Hid (Kept [] w w5) := HC4.out.kept.then k5
        have heq := Eq_same (row_bytes2 hq5) (HC4.out.duo.box k5).own.bytes hm0
        clear hout hq5 k5 HC4
        go_wp2_with fail
        go_at_call 18
        refine heq.mono ?_
        rintro e w6 ⟨rfl, n6, rfl⟩
        clear heq
        go_wp2
        go_ret
        exact ⟨rfl, HK5.out.then ((Kept.refl _ _).drewN n6)⟩
end Go.Proofs.Ytmambfdfkobjgaa
