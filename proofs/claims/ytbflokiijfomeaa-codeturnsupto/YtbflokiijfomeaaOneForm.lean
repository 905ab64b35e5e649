/-
  WALK: satchellaw1.CodeOneForm: what is read without a fault, written anew, is just the bytes that were read, for every script.
-/
import Derived.Test.YtbflokiijfomeaaAgainWalk
namespace Go.Proofs.Ytbflokiijfomeaa
open Go.RowKit

theorem errL_ne (f : Nat) (h : f ≤ 4) (h0 : f ≠ 0) : (errL f != 0) = true := by
  match f, h, h0 with
  | 1, _, _ => rfl
  | 2, _, _ => rfl
  | 3, _, _ => rfl
  | 4, _, _ => rfl
theorem add_zero_addr (a : Addr) : a.add 0 = a := by unfold Addr.add; split <;> simp_all
theorem slice_head {P : Program} (w : World) (t : TypeId) (ao : Option Addr) (len cap p : Nat) (ht : P.underlying t = some (.slice (P.elem t))) (hs : (sizeOf (P.elem t)).run P w = .ok 1 w) (h : p ≤ cap) :
    (Instr.slice t (.slice ao len cap) none (some (.int .i64 p)) none).run P w = .ok (.slice ao p cap) w := by
  rw [run_slice_h w t ao len cap ht .i64 (p : Int) (by omega) (by omega), hs]
  simp only [Result.andThen, sliced, Int.toNat_natCast, Nat.sub_zero, Nat.zero_mul]
  congr 2
  split
  · rfl
  · cases ao <;> simp [add_zero_addr]

/-- The Writer there holds so many bytes. -/
def LenIs (w : World) (wb n : Nat) : Prop := ∃ B zs S, WAt w wb B zs S ∧ zs.length = n
theorem len_of {w : World} {wb n : Nat} (h : LenIs w wb n) : Calls Try.prog 27 #[.pointer (some ⟨wb, 0, none⟩)] w fun e w' => e = .returned (.int .i64 n) ∧ w' = w := by
  obtain ⟨B, zs, S, h, rfl⟩ := h
  exact WLen_any h

/-- What holds in the loop. -/
structure OneRel (w wr : World) (r g wb : Nat) (xs : List Int) (pl : Nat) (opsv : Value) : Prop where
  rd : Rdr wr r g xs pl 0
  wt : ∃ S, WAt wr wb (w.heap.size + 1) (xs.take pl) S ∧ r ∉ S ∧ g ∉ S
  box : wr.cell? ⟨w.heap.size, 2, none⟩ = some opsv
  kept : Kept [] w wr
  lo : w.heap.size + 1 ≤ r
  size : w.heap.size + 1 ≤ wr.heap.size

theorem OneRel.later {w wr w' : World} {r g wb : Nat} {xs : List Int} {pl : Nat} {opsv : Value} (h : OneRel w wr r g wb xs pl opsv) (k : Kept [] wr w') : OneRel w w' r g wb xs pl opsv := by
  obtain ⟨S, t1, t2, t3⟩ := h.wt
  exact ⟨h.rd.kept k (by simp) (by simp), ⟨S, t1.kept k (by simp), t2, t3⟩, k.cell h.box (by simp), h.kept.then k, h.lo, Nat.le_trans h.size k.size⟩
theorem out_of {w wr : World} {r g wb : Nat} {xs : List Int} {pl : Nat} {opsv : Value} (hl : (xs.take pl).length = pl) (h : OneRel w wr r g wb xs pl opsv) (hm : pl ≤ 140737488355328) :
    Calls Try.prog 24 #[.pointer (some ⟨wb, 0, none⟩)] wr fun e w' => e = .returned (.slice (some ⟨wr.heap.size, 0, none⟩) pl pl) ∧ w'.heap[wr.heap.size]? = some (.cells ((xs.take pl).map (Value.int .u8)).toArray 5 (0, 0)) ∧ Kept [] wr w' := by
  obtain ⟨S, hW, _, _⟩ := h.wt
  have := WOut_any hW (by rw [hl]; exact hm)
  rwa [hl] at this
theorem bytes_row' {w : World} {q n : Nat} {ys : List Int} (hl : ys.length = n) (h : w.heap[q]? = some (.cells (ys.map (Value.int .u8)).toArray 5 (0, 0))) : BytesAt w (.slice (some ⟨q, 0, none⟩) n n) ys := by
  rw [← hl]; exact bytes_row h

theorem oneRel_step {w wr w2 : World} {r g wb : Nat} {xs : List Int} {pl : Nat} {opsv : Value} (h : OneRel w wr r g wb xs pl opsv) {S : List Nat} (hW : WAt wr wb (w.heap.size + 1) (xs.take pl) S) (hrS : r ∉ S) (hgS : g ∉ S)
    {us : List Int} {pl' f : Nat} (hb : Both wr w2 r g wb (w.heap.size + 1) xs us pl' f S) :
    Rdr w2 r g xs pl' f ∧ (∃ S', WAt w2 wb (w.heap.size + 1) us S' ∧ r ∉ S' ∧ g ∉ S') ∧ w2.cell? ⟨w.heap.size, 2, none⟩ = some opsv ∧ Kept [] w w2 ∧ w.heap.size + 1 ≤ w2.heap.size := by
  obtain ⟨hr, S', hS', k, hs⟩ := hb
  have hrl := lt_of_block h.rd.blk
  have hgl := lt_of_block h.rd.row
  have hlt := hW.lt
  refine ⟨hr, ⟨S', hS', fun hx => ?_, fun hx => ?_⟩, k.cell h.box ?_, h.kept.trans k ?_, Nat.le_trans h.size k.size⟩
  · rcases hs r hx with h1 | h1
    · exact hrS h1
    · omega
  · rcases hs g hx with h1 | h1
    · exact hgS h1
    · omega
  · have hlo := h.lo
    intro hx
    rcases List.mem_cons.1 hx with h1 | h1
    · dsimp only at h1; omega
    · have := (hlt _ h1).1; dsimp only at this; omega
  · intro x hx
    have hlo := h.lo
    rcases List.mem_cons.1 hx with h1 | h1
    · exact Or.inr (by omega)
    · have := (hlt _ h1).1; exact Or.inr (by omega)

theorem BytesAt.head {w : World} {ao : Option Addr} {cap : Nat} {ys : List Int} (h : BytesAt w (.slice ao ys.length cap) ys) (p : Nat) (hp : p ≤ ys.length) : BytesAt w (.slice ao p cap) (ys.take p) := by
  obtain ⟨ao', cap', hv, hc, hn, hcell⟩ := h
  simp only [Value.slice.injEq] at hv
  obtain ⟨rfl, _, rfl⟩ := hv
  have hl : (ys.take p).length = p := by simp; omega
  refine ⟨ao, cap, by rw [hl], by rw [hl]; omega, hn, fun hne => ?_⟩
  obtain ⟨b, off, e, hh⟩ := hcell (by rintro rfl; simp at hne)
  refine ⟨b, off, e, fun i u hu => hh i u ?_⟩
  have hi : i < (ys.take p).length := (List.getElem?_eq_some_iff.1 hu).1
  rwa [List.getElem?_take_of_lt (by omega)] at hu

theorem take_more (xs : List Int) (a b : Nat) (h : a ≤ b) : xs.take a ++ (xs.drop a).take (b - a) = xs.take b := by
  rw [← List.take_add]; congr 1; omega


theorem Try.size_elem (w : World) : (sizeOf (Try.prog.elem 22)).run Try.prog w = .ok 1 w := by kernel_rfl
theorem Try.elem_bytes : Try.prog.underlying 22 = some (.slice (Try.prog.elem 22)) := by kernel_rfl

set_option maxRecDepth 100000 in
set_option maxHeartbeats 2000000 in
theorem oneForm_empty (w : World) (ao0 ao1 ao2 : Option Addr) (l1 c0 c1 c2 : Nat) (xs : List Int) (h0 : BytesAt w (.slice ao0 xs.length c0) xs) (ho : Octs xs) (hs : xs.length ≤ 140737488351232) :
    Calls Try.prog 7 #[.agg #[.slice ao0 xs.length c0, .slice ao1 l1 c1, .slice ao2 0 c2]] w fun e w' => e = .returned (.bool true) ∧ Kept [] w w' := by
  have hread := Read_any _ xs _ (h0.kept ((Kept.refl [] w).alloc (.cells #[.slice ao0 xs.length c0, .slice ao1 l1 c1, .slice ao2 0 c2] 26)) (fun _ _ => by simp)) (by omega) ho
  clear h0
  go_enter Try.func7, Try.ntmps7
  go_wp2_with (first
    | (go_at_call 8; refine hread.mono ?_; rintro e w1 ⟨r, g, rfl, R, hk, hr, hg1⟩; have HR : Hid (Rdr w1 r g xs 0 0) := R; clear R)
    | (go_at_call 17; refine (New_any w1 (w.heap.size + 1) (by have := hk.size; rw [World.size_alloc] at this; exact this)).mono ?_; rintro e w2 ⟨rfl, hW2, hk2⟩; have HL := Left_any (HR.out.kept hk2 (by simp) (by simp)); have HW2 : Hid _ := hW2; clear hW2)
    | (go_at_call 15; refine HL.mono ?_; rintro e w3 ⟨rfl, n3, rfl⟩))
  have hkw : Kept [] w w2 := ((((Kept.refl [] w).alloc _).then hk).then hk2)
  have hbox : w2.cell? ⟨w.heap.size, 2, none⟩ = some (.slice ao2 0 c2) := by rw [(hk.then hk2).last.2.1]; rfl
  have hw1s : w.heap.size + 1 ≤ w1.heap.size := by have := hk.size; rw [World.size_alloc] at this; exact this
  rw [World.size_alloc] at hr hg1
  have HO : Hid (OneRel w (w2.drewN n3) r g w1.heap.size xs 0 (.slice ao2 0 c2)) := by
    have kd : Kept [] w2 (w2.drewN n3) := (Kept.refl _ _).drewN n3
    have hrl := lt_of_block HR.out.blk
    have hgl := lt_of_block HR.out.row
    refine ⟨(HR.out.kept hk2 (by simp) (by simp)).kept kd (by simp) (by simp), ⟨[w1.heap.size], ?_, by simp; omega, by simp; omega⟩, kd.cell hbox (by simp), hkw.then kd, hr, ?_⟩
    · have := (show WAt w2 w1.heap.size (w.heap.size + 1) [] [w1.heap.size] from HW2.out).kept kd (by simp); simpa using this
    · have := hk2.size; show _ ≤ w2.heap.size; omega
  have HRD : Hid (∀ n, Rdr (w2.drewN n) r g xs 0 0) := fun n => (HR.out.kept hk2 (by simp) (by simp)).kept (S := []) ((Kept.refl _ _).drewN n) (by simp) (by simp)
  have HKD : Hid (∀ n, Kept [] w (w2.drewN n)) := fun n => hkw.drewN n
  clear hread hk hk2 HR HL HW2 hkw hbox
  have hbox := HO.out.box
  have R := HO.out.rd
  have hend := End_any R (by decide)
  rw [if_neg (by decide)] at hend
  clear R HO
  refine wp_loop_rounds 1 ?_
  rw [rounds_succ]
  by_cases hpl : 0 < xs.length
  · rw [if_pos hpl] at hend
    have hb0 : ((xs.length : Int) == 0) = false := beq_eq_false_iff_ne.2 (by omega)
    go_wp2_with (first
      | (go_at_call 14; refine hend.mono ?_; rintro e w9 ⟨rfl, n9, rfl⟩)
      | (go_at_call 10; refine (num_any _ _).mono ?_; rintro e w9 ⟨rfl, hw9⟩; subst w9)
      | (go_at_call 15; refine (Left_any (HRD.out _)).mono ?_; rintro e w9 ⟨rfl, n8, rfl⟩))
    go_ret
    exact ⟨rfl, HKD.out _⟩
  · rw [if_neg hpl] at hend
    have hb0 : ((xs.length : Int) == 0) = true := beq_iff_eq.2 (by omega)
    go_wp2_with (first
      | (go_at_call 14; refine hend.mono ?_; rintro e w9 ⟨rfl, n9, rfl⟩)
      | (go_at_call 10; refine (num_any _ _).mono ?_; rintro e w9 ⟨rfl, hw9⟩; subst w9)
      | (go_at_call 15; refine (Left_any (HRD.out _)).mono ?_; rintro e w9 ⟨rfl, n8, rfl⟩))
    go_ret
    exact ⟨rfl, HKD.out _⟩

set_option maxRecDepth 100000 in
set_option maxHeartbeats 2000000 in
theorem oneForm_some (w : World) (ao0 ao1 : Option Addr) (b2 off2 l1 c0 c1 c2 : Nat) (xs : List Int) (ops : List COp) (h0 : BytesAt w (.slice ao0 xs.length c0) xs) (ho : Octs xs) (hs : xs.length ≤ 140737488351232)
    (hops : ∀ (i : Nat) (o : COp), ops[i]? = some o →
      w.cell? ⟨b2, off2 + i * 5, none⟩ = some (.int .i64 o.kind) ∧ w.cell? ⟨b2, off2 + i * 5 + 1, none⟩ = some (.int .i64 o.which) ∧ w.cell? ⟨b2, off2 + i * 5 + 2, none⟩ = some (.int .i64 o.m) ∧
      w.cell? ⟨b2, off2 + i * 5 + 3, none⟩ = some (.int .u64 o.n) ∧ w.cell? ⟨b2, off2 + i * 5 + 4, none⟩ = some (.slice o.ao o.b.length o.cap))
    (hg : ∀ o, o ∈ ops → COp.Good o w) :
    Calls Try.prog 7 #[.agg #[.slice ao0 xs.length c0, .slice ao1 l1 c1, .slice (some ⟨b2, off2, none⟩) ops.length c2]] w fun e w' => e = .returned (.bool true) ∧ Kept [] w w' := by
  have hread := Read_any _ xs _ (h0.kept ((Kept.refl [] w).alloc (.cells #[.slice ao0 xs.length c0, .slice ao1 l1 c1, .slice (some ⟨b2, off2, none⟩) ops.length c2] 26)) (fun _ _ => by simp)) (by omega) ho
  have hc0 : xs.length ≤ c0 := by obtain ⟨ao, cap, hv, hc, _⟩ := h0; simp only [Value.slice.injEq] at hv; obtain ⟨_, _, rfl⟩ := hv; exact hc
  have H0 : Hid (BytesAt w (.slice ao0 xs.length c0) xs) := h0
  clear h0
  go_enter Try.func7, Try.ntmps7
  go_wp2_with (first
    | (go_at_call 8; refine hread.mono ?_; rintro e w1 ⟨r, g, rfl, R, hk, hr, hg1⟩; have HR : Hid (Rdr w1 r g xs 0 0) := R; clear R)
    | (go_at_call 17; refine (New_any w1 (w.heap.size + 1) (by have := hk.size; rw [World.size_alloc] at this; exact this)).mono ?_; rintro e w2 ⟨rfl, hW2, hk2⟩; have HL := Left_any (HR.out.kept hk2 (by simp) (by simp)); have HW2 : Hid _ := hW2; clear hW2)
    | (go_at_call 15; refine HL.mono ?_; rintro e w3 ⟨rfl, n3, rfl⟩))
  have hkw : Kept [] w w2 := ((((Kept.refl [] w).alloc _).then hk).then hk2)
  have hbox : w2.cell? ⟨w.heap.size, 2, none⟩ = some (.slice (some ⟨b2, off2, none⟩) ops.length c2) := by rw [(hk.then hk2).last.2.1]; rfl
  have hw1s : w.heap.size + 1 ≤ w1.heap.size := by have := hk.size; rw [World.size_alloc] at this; exact this
  rw [World.size_alloc] at hr hg1
  have HO : Hid (OneRel w (w2.drewN n3) r g w1.heap.size xs 0 (.slice (some ⟨b2, off2, none⟩) ops.length c2)) := by
    have kd : Kept [] w2 (w2.drewN n3) := (Kept.refl _ _).drewN n3
    have hrl := lt_of_block HR.out.blk
    have hgl := lt_of_block HR.out.row
    refine ⟨(HR.out.kept hk2 (by simp) (by simp)).kept kd (by simp) (by simp), ⟨[w1.heap.size], ?_, by simp; omega, by simp; omega⟩, kd.cell hbox (by simp), hkw.then kd, hr, ?_⟩
    · have := (show WAt w2 w1.heap.size (w.heap.size + 1) [] [w1.heap.size] from HW2.out).kept kd (by simp); simpa using this
    · have := hk2.size; show _ ≤ w2.heap.size; omega
  clear hread hk hk2 HR HL HW2 hkw hbox
  go_loopw [6] (fun i wr => ∃ k pl : Nat, k ≤ ops.length ∧ i = .int .i64 k ∧ Hid (OneRel w wr r g w1.heap.size xs pl (.slice (some ⟨b2, off2, none⟩) ops.length c2))) (fun i _ => ops.length - (intOf i).toNat)
  case atStart => exact ⟨0, 0, Nat.zero_le _, rfl, HO⟩
  case round =>
    clear HO
    obtain ⟨k, pl, hkk, rfl, HO⟩ := hrel
    have hbox := HO.out.box
    have KW := HO.out.kept
    by_cases hlt : k < ops.length
    · by_cases h400 : k < 400
      · obtain ⟨o, hko⟩ : ∃ o, ops[k]? = some o := ⟨_, List.getElem?_eq_getElem hlt⟩
        have hgo := hg o (List.mem_of_getElem? hko)
        obtain ⟨q0, q1, q2, q3, q4⟩ := hops k o hko
        replace q0 := KW.cell q0 (by simp)
        replace q1 := KW.cell q1 (by simp)
        replace q2 := KW.cell q2 (by simp)
        replace q3 := KW.cell q3 (by simp)
        replace q4 := KW.cell q4 (by simp)
        have R := HO.out.rd
        have hple := R.le
        obtain ⟨S, hW, hrS, hgS⟩ := HO.out.wt
        have hlen : (xs.take pl).length = pl := by simp; omega
        have hag := again_any R hW HO.out.size hrS hgS o hgo (by rw [hlen]; exact Nat.le_refl _) hs
        have hfr := tookO_frame xs ho pl hple o hgo.n1 hgo.m1
        have hone := one_form xs ho pl o hgo.n1 hgo.m1
        have hWL : LenIs wr w1.heap.size pl := ⟨_, _, _, hW, hlen⟩
        clear hko hgo hops hg KW
        generalize hy : tookO xs pl 0 o = y at hag hfr hone
        obtain ⟨f1, f2, f3, f4, f5, f6, f7⟩ := hfr
        have HH : Hid (tookO xs pl 0 o = y) := hy
        clear hy f5 f6 f7
        by_cases hyf : y.f = 0
        · have hen := hone hyf
          rw [hyf] at hag
          rw [hen, take_more xs pl y.pl f1] at hag
          have hlen2 : (xs.take y.pl).length = y.pl := by simp; omega
          have hstep : ∀ w2, Both wr w2 r g w1.heap.size (w.heap.size + 1) xs (xs.take y.pl) y.pl 0 S → (∀ n, OneRel w (w2.drewN n) r g w1.heap.size xs y.pl (.slice (some ⟨b2, off2, none⟩) ops.length c2)) := by
            intro w2 hb n
            obtain ⟨s1, s2, s3, s4, s5⟩ := oneRel_step HO.out hW hrS hgS hb
            have kd : Kept [] w2 (w2.drewN n) := (Kept.refl _ _).drewN n
            obtain ⟨S', t1, t2, t3⟩ := s2
            exact ⟨s1.kept kd (by simp) (by simp), ⟨S', t1.kept kd (by simp), t2, t3⟩, kd.cell s3 (by simp), s4.then kd, HO.out.lo, s5⟩
          have HT : Hid (∀ w2, Both wr w2 r g w1.heap.size (w.heap.size + 1) xs (xs.take y.pl) y.pl 0 S → (∀ n, OneRel w (w2.drewN n) r g w1.heap.size xs y.pl (.slice (some ⟨b2, off2, none⟩) ops.length c2))) := hstep
          clear hone hen f4 f3 hstep hW hyf
          obtain ⟨p, hp⟩ : ∃ p, p = y.pl := ⟨_, rfl⟩
          rw [← hp] at f1 f2 hag HT hlen2
          clear hp HH
          have hsl := fun wx => slice_head (P := Try.prog) wx 22 ao0 xs.length c0 p Try.elem_bytes (Try.size_elem wx) (by omega)
          go_wp2_with (first
            | (go_at_call 12; refine (At_any (by assumption)).mono ?_; rintro e w9 ⟨rfl, hw9⟩; subst w9)
            | (go_at_call 27; refine (len_of (by assumption)).mono ?_; rintro e w9 ⟨rfl, hw9⟩; subst w9)
            | (go_at_call 32; refine hag.mono ?_; rintro e w2 ⟨rfl, hbo⟩; have R2 := hbo.1; have HBO : Hid (Both wr w2 r g w1.heap.size (w.heap.size + 1) xs (xs.take p) p 0 S) := hbo; clear hbo)
            | (go_at_call 11; refine (Fault_any (by assumption) (by decide)).mono ?_; rintro e w9 ⟨rfl, hw9⟩; subst w9)
            | (go_at_call 10; refine (num_any _ _).mono ?_; rintro e w9 ⟨rfl, hw9⟩; subst w9)
            | (go_at_call 15; refine (Left_any (by assumption)).mono ?_; rintro e w9 ⟨rfl, n9, rfl⟩; have R3 := (HT.out _ HBO.out n9).rd; have L3 : LenIs (w2.drewN n9) w1.heap.size p := (by obtain ⟨S3, h3, _⟩ := (HT.out _ HBO.out n9).wt; exact ⟨_, _, _, h3, hlen2⟩); have HOut := out_of hlen2 (HT.out _ HBO.out n9) (by omega))
            | (go_at_call 24; refine HOut.mono ?_; rintro e w3 ⟨rfl, hq3, hk3⟩; have R4 := R3.kept hk3 (by simp) (by simp); have HE := Eq_same (bytes_row' hlen2 hq3) ((H0.out.kept ((HT.out _ HBO.out n9).kept.then hk3) (fun _ _ => by simp)).head p f2) (by rw [hlen2]; omega); clear hq3)
            | (go_at_call 23; refine HE.mono ?_; rintro e w4 ⟨rfl, n4, rfl⟩))
          go_roundw
          case rel => exact ⟨k + 1, p, by omega, by go_num, (HT.out _ HBO.out n9).later (hk3.drewN n4)⟩
          case measure => simp [intOf]; omega
        · have hpl := f4 hyf
          have hb := errL_ne y.f f3 hyf
          rw [hpl] at hag
          have hK2 : ∀ w2, Both wr w2 r g w1.heap.size (w.heap.size + 1) xs (xs.take pl ++ encO o y) pl y.f S → Kept [] w w2 := fun w2 hb => (oneRel_step HO.out hW hrS hgS hb).2.2.2.1
          have HK : Hid _ := hK2
          clear hone f4 hpl hK2 hW
          go_wp2_with (first
            | (go_at_call 12; refine (At_any (by assumption)).mono ?_; rintro e w9 ⟨rfl, hw9⟩; subst w9)
            | (go_at_call 27; refine (len_of (by assumption)).mono ?_; rintro e w9 ⟨rfl, hw9⟩; subst w9)
            | (go_at_call 32; refine hag.mono ?_; rintro e w2 ⟨rfl, hbo⟩; have R2 := hbo.1; have HBO : Hid _ := hbo; clear hbo)
            | (go_at_call 11; refine (Fault_any (by assumption) f3).mono ?_; rintro e w9 ⟨rfl, hw9⟩; subst w9)
            | (go_at_call 10; refine (num_any _ _).mono ?_; rintro e w9 ⟨rfl, hw9⟩; subst w9))
          go_ret
          exact ⟨rfl, HK.out _ HBO.out⟩
      · have R := HO.out.rd
        have hple := R.le
        have hKd : ∀ n, Kept [] w (wr.drewN n) := fun n => KW.drewN n
        have hend := End_any R (by decide)
        rw [if_neg (by decide)] at hend
        have HKD : Hid (∀ n, Kept [] w (wr.drewN n)) := hKd
        have HRD : Hid (∀ n, Rdr (wr.drewN n) r g xs pl 0) := fun n => R.kept (S := []) ((Kept.refl _ _).drewN n) (by simp) (by simp)
        clear hKd hops hg
        by_cases hpl : pl < xs.length
        · rw [if_pos hpl] at hend
          have hb0 : (((xs.length : Int) - (pl : Int)) == 0) = false := beq_eq_false_iff_ne.2 (by omega)
          go_wp2_with (first
            | (go_at_call 14; refine hend.mono ?_; rintro e w9 ⟨rfl, n9, rfl⟩)
            | (go_at_call 10; refine (num_any _ _).mono ?_; rintro e w9 ⟨rfl, hw9⟩; subst w9)
            | (go_at_call 15; refine (Left_any (HRD.out _)).mono ?_; rintro e w9 ⟨rfl, n8, rfl⟩))
          go_ret
          exact ⟨rfl, HKD.out _⟩
        · rw [if_neg hpl] at hend
          have hb0 : (((xs.length : Int) - (pl : Int)) == 0) = true := beq_iff_eq.2 (by omega)
          go_wp2_with (first
            | (go_at_call 14; refine hend.mono ?_; rintro e w9 ⟨rfl, n9, rfl⟩)
            | (go_at_call 10; refine (num_any _ _).mono ?_; rintro e w9 ⟨rfl, hw9⟩; subst w9)
            | (go_at_call 15; refine (Left_any (HRD.out _)).mono ?_; rintro e w9 ⟨rfl, n8, rfl⟩))
          go_ret
          exact ⟨rfl, HKD.out _⟩
    · have R := HO.out.rd
      have hple := R.le
      have hKd : ∀ n, Kept [] w (wr.drewN n) := fun n => KW.drewN n
      have hend := End_any R (by decide)
      rw [if_neg (by decide)] at hend
      have HKD : Hid (∀ n, Kept [] w (wr.drewN n)) := hKd
      have HRD : Hid (∀ n, Rdr (wr.drewN n) r g xs pl 0) := fun n => R.kept (S := []) ((Kept.refl _ _).drewN n) (by simp) (by simp)
      clear hKd hops hg
      by_cases hpl : pl < xs.length
      · rw [if_pos hpl] at hend
        have hb0 : (((xs.length : Int) - (pl : Int)) == 0) = false := beq_eq_false_iff_ne.2 (by omega)
        go_wp2_with (first
          | (go_at_call 14; refine hend.mono ?_; rintro e w9 ⟨rfl, n9, rfl⟩)
          | (go_at_call 10; refine (num_any _ _).mono ?_; rintro e w9 ⟨rfl, hw9⟩; subst w9)
          | (go_at_call 15; refine (Left_any (HRD.out _)).mono ?_; rintro e w9 ⟨rfl, n8, rfl⟩))
        go_ret
        exact ⟨rfl, HKD.out _⟩
      · rw [if_neg hpl] at hend
        have hb0 : (((xs.length : Int) - (pl : Int)) == 0) = true := beq_iff_eq.2 (by omega)
        go_wp2_with (first
          | (go_at_call 14; refine hend.mono ?_; rintro e w9 ⟨rfl, n9, rfl⟩)
          | (go_at_call 10; refine (num_any _ _).mono ?_; rintro e w9 ⟨rfl, hw9⟩; subst w9)
          | (go_at_call 15; refine (Left_any (HRD.out _)).mono ?_; rintro e w9 ⟨rfl, n8, rfl⟩))
        go_ret
        exact ⟨rfl, HKD.out _⟩

theorem oneForm_any (w : World) (ao0 ao1 ao2 : Option Addr) (l1 c0 c1 c2 : Nat) (xs : List Int) (ops : List COp) (h0 : BytesAt w (.slice ao0 xs.length c0) xs) (ho : Octs xs) (hs : xs.length ≤ 140737488351232)
    (hops : OpsAt w (.slice ao2 ops.length c2) ops) (hg : ∀ o, o ∈ ops → COp.Good o w) :
    Calls Try.prog 7 #[.agg #[.slice ao0 xs.length c0, .slice ao1 l1 c1, .slice ao2 ops.length c2]] w fun e w' => e = .returned (.bool true) ∧ Kept [] w w' := by
  obtain ⟨ao, cap, hv, hl, hc⟩ := hops
  simp only [Value.slice.injEq] at hv
  obtain ⟨rfl, _, rfl⟩ := hv
  by_cases hne : ops = []
  · subst hne
    exact oneForm_empty w ao0 ao1 ao2 l1 c0 c1 c2 xs h0 ho hs
  · obtain ⟨b, off, rfl, hcells⟩ := hc hne
    exact oneForm_some w ao0 ao1 b off l1 c0 c1 c2 xs ops h0 ho hs hcells hg

end Go.Proofs.Ytbflokiijfomeaa
