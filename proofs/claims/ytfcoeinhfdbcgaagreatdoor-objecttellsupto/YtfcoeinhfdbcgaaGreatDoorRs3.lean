/-
  WALK: satchelref2.round.
  Appends within a region that is walked as it is drawn; rows of one's own.
  PLAIN: lists of 64-bit words that are one's own; the reference's padded text as bytes and as words.
-/
import Derived.Test.YtfcoeinhfdbcgaaGreatDoorRs1
namespace Go.Proofs.YtfcoeinhfdbcgaaGreatDoor
open Go.RowKit

/-- 64-bit words as cells. -/
def uC (ws : List Int) : Array Value := (ws.map (Value.int .u64)).toArray
theorem uC_get {ws : List Int} {j : Nat} (h : j < ws.length) : (uC ws)[j]? = some (.int .u64 (at0 ws j)) := by
  unfold uC at0
  rw [← Array.getElem?_toList]
  simp [List.getElem?_eq_getElem h]
theorem uC_size (ws : List Int) : (uC ws).size = ws.length := by simp [uC]
theorem uC_cell {w : World} {g : Nat} {ty : TypeId} {fr : Nat × Nat} {ws : List Int} (h : w.heap[g]? = some (.cells (uC ws) ty fr)) {j : Nat} (hj : j < ws.length) : w.cell? ⟨g, j, none⟩ = some (.int .u64 (at0 ws j)) := by
  rw [cell_of_row _ _ _ _ _ _ h]; exact uC_get hj
theorem uC_put {w : World} {g : Nat} {ty : TypeId} {l : List Int} (h : w.heap[g]? = some (.cells (uC l) ty (0, 0))) (k : Nat) (x : Int) :
    (w.setCell ⟨g, k, none⟩ (.int .u64 x)).heap[g]? = some (.cells (uC (l.set k x)) ty (0, 0)) := by
  rw [heap_setCell_same _ _ _ _ _ _ h]
  simp [uC, List.map_set]

/-- The reference's variables lie in memory as the text lays them. -/
structure VarsR (w : World) : Prop where
  first : ∃ ty fr, w.heap[0]? = some (.cells (uC firstL) ty fr)
  turn : ∃ ty fr, w.heap[4]? = some (.cells (uC turnK) ty fr)
theorem VarsR.kept {S : List Nat} {w w' : World} (h : VarsR w) (k : Kept S w w') (h0 : 0 ∉ S) (h1 : 4 ∉ S) : VarsR w' :=
  ⟨by obtain ⟨ty, fr, h⟩ := h.first; exact ⟨ty, fr, k.heap h h0⟩, by obtain ⟨ty, fr, h⟩ := h.turn; exact ⟨ty, fr, k.heap h h1⟩⟩

theorem xor64 {a b : Nat} (ha : a < 4294967296) (hb : b < 4294967296) : bits .xor .u64 (a : Int) (b : Int) = ((a ^^^ b : Nat) : Int) := bits_xor_u64_nat a b (by omega) (by omega)
theorem and64 {a b : Nat} (ha : a < 4294967296) (hb : b < 4294967296) : bits .and .u64 (a : Int) (b : Int) = ((a &&& b : Nat) : Int) := bits_and_u64_nat a b (by omega) (by omega)
theorem mask64 (a : Nat) (ha : a < 18446744073709551616) : bits .and .u64 (a : Int) 4294967295 = ((a % 4294967296 : Nat) : Int) := by
  rw [show (4294967295 : Int) = ((4294967295 : Nat) : Int) from rfl, bits_and_u64_nat a _ ha (by decide), show (4294967295 : Nat) = 2 ^ 32 - 1 from rfl, Nat.and_two_pow_sub_one_eq_mod]
theorem up64 (e : Nat) : bits .xor .u64 (bits .xor .u64 ((rotN e 6 : Nat) : Int) ((rotN e 11 : Nat) : Int)) ((rotN e 25 : Nat) : Int) = ((upN e : Nat) : Int) := by
  rw [xor64 (rotN_lt _ _) (rotN_lt _ _), xor64 (xor_lt32 (rotN_lt _ _) (rotN_lt _ _)) (rotN_lt _ _)]; rfl
theorem um64 (e : Nat) : bits .xor .u64 (bits .xor .u64 ((rotN e 2 : Nat) : Int) ((rotN e 13 : Nat) : Int)) ((rotN e 22 : Nat) : Int) = ((upM e : Nat) : Int) := by
  rw [xor64 (rotN_lt _ _) (rotN_lt _ _), xor64 (xor_lt32 (rotN_lt _ _) (rotN_lt _ _)) (rotN_lt _ _)]; rfl
theorem ch64 (e f g : Nat) (he : e < 4294967296) (hf : f < 4294967296) (hg : g < 4294967296) : bits .xor .u64 (bits .and .u64 e f) (bits .and .u64 (bits .xor .u64 4294967295 e) g) = ((chN e f g : Nat) : Int) := by
  rw [show (4294967295 : Int) = ((4294967295 : Nat) : Int) from rfl, xor64 (by decide) he, and64 he hf, and64 (xor_lt32 (by decide) he) hg, xor64 (and_lt32 he) (and_lt32 (xor_lt32 (by decide) he))]; rfl
theorem maj64 (a b c : Nat) (ha : a < 4294967296) (hb : b < 4294967296) (hc : c < 4294967296) : bits .xor .u64 (bits .xor .u64 (bits .and .u64 a b) (bits .and .u64 a c)) (bits .and .u64 b c) = ((majN a b c : Nat) : Int) := by
  rw [and64 ha hb, and64 ha hc, and64 hb hc, xor64 (and_lt32 ha) (and_lt32 ha), xor64 (xor_lt32 (and_lt32 ha) (and_lt32 ha)) (and_lt32 hb)]; rfl
theorem turnK_lt (t : Nat) : (turnKN[t]?.getD 0) < 4294967296 := by
  by_cases h : t < 64
  · have key : (List.range 64).all (fun t => decide ((turnKN[t]?.getD 0) < 4294967296)) = true := by decide
    exact of_decide_eq_true (List.all_eq_true.1 key t (List.mem_range.2 h))
  · have : turnKN[t]? = none := List.getElem?_eq_none (by show 64 ≤ t; omega)
    rw [this]; decide

theorem Tryz.infoU8 : (Tryz.prog.info? 119).map (·.size) = some 8 := by kernel_rfl
theorem sum64 {h u c z y m j : Nat} (h1 : h < 4294967296) (h2 : u < 4294967296) (h3 : c < 4294967296) (h4 : z < 4294967296) (h5 : y < 4294967296) (h6 : m < 4294967296) (h7 : j < 4294967296) :
    bits .and .u64 (IntKind.u64.wrap (IntKind.u64.wrap (IntKind.u64.wrap (IntKind.u64.wrap (IntKind.u64.wrap ((h : Int) + u) + c) + z) + y) + IntKind.u64.wrap ((m : Int) + j))) 4294967295 = (((h + u + c + z + y + (m + j)) % 4294967296 : Nat) : Int) := by
  have e : IntKind.u64.wrap (IntKind.u64.wrap (IntKind.u64.wrap (IntKind.u64.wrap (IntKind.u64.wrap ((h : Int) + u) + c) + z) + y) + IntKind.u64.wrap ((m : Int) + j)) = ((h + u + c + z + y + (m + j) : Nat) : Int) := by
    simp only [IntKind.wrap_u64]; omega
  rw [e, mask64 _ (by omega)]
theorem sum64' {d h u c z y : Nat} (h0 : d < 4294967296) (h1 : h < 4294967296) (h2 : u < 4294967296) (h3 : c < 4294967296) (h4 : z < 4294967296) (h5 : y < 4294967296) :
    bits .and .u64 (IntKind.u64.wrap ((d : Int) + IntKind.u64.wrap (IntKind.u64.wrap (IntKind.u64.wrap (IntKind.u64.wrap ((h : Int) + u) + c) + z) + y))) 4294967295 = (((d + (h + u + c + z + y)) % 4294967296 : Nat) : Int) := by
  have e : IntKind.u64.wrap ((d : Int) + IntKind.u64.wrap (IntKind.u64.wrap (IntKind.u64.wrap (IntKind.u64.wrap ((h : Int) + u) + c) + z) + y)) = ((d + (h + u + c + z + y) : Nat) : Int) := by
    simp only [IntKind.wrap_u64]; omega
  rw [e, mask64 _ (by omega)]
theorem turnN_eq (kw w a b c d e f g h : Nat) : turnN kw w ⟨a, b, c, d, e, f, g, h⟩ = ⟨(h + upN e + chN e f g + kw + w + (upM a + majN a b c)) % 4294967296, a, b, c, (d + (h + upN e + chN e f g + kw + w)) % 4294967296, e, f, g⟩ := rfl
theorem eightC (s : EightN) : uC (castL s) = #[.int .u64 (s.a : Int), .int .u64 (s.b : Int), .int .u64 (s.c : Int), .int .u64 (s.d : Int), .int .u64 (s.e : Int), .int .u64 (s.f : Int), .int .u64 (s.g : Int), .int .u64 (s.h : Int)] := rfl

set_option maxRecDepth 100000 in
set_option maxHeartbeats 4000000 in
theorem round_any (w : World) (hR : VarsR w) (s : EightN) (hs : s.Ok) (f : Nat → Nat) (hf : ∀ t, t < 64 → f t < 4294967296) (g cap : Nat) (hg : ∀ t, t < 64 → w.cell? ⟨g, t, none⟩ = some (.int .u64 (f t : Int))) :
    Calls Tryz.prog 70 #[.agg (uC (castL s)), .slice (some ⟨g, 0, none⟩) 64 cap] w fun e w' => e = .returned (.agg (uC (castL (turnsN f s 64)))) ∧ Kept [] w w' := by
  rw [eightC]
  have HS : Hid (s.Ok) := hs
  have HF : Hid (∀ t, t < 64 → f t < 4294967296) := hf
  have HR : Hid (VarsR w) := hR
  have HG : Hid (∀ t, t < 64 → w.cell? ⟨g, t, none⟩ = some (.int .u64 (f t : Int))) := hg
  obtain ⟨T, hT⟩ : ∃ T : Nat → EightN, T = turnsN f s := ⟨_, rfl⟩
  have T0 : Hid (T 0 = s) := by rw [hT]; exact turnsN_zero _ _
  have TS : Hid (∀ k, T (k + 1) = turnN (turnKN[k]?.getD 0) (f k) (T k)) := by rw [hT]; exact fun k => turnsN_succ _ _ _
  have TO : Hid (∀ k, (T k).Ok) := by rw [hT]; exact fun k => turnsN_ok HS.out k
  have TE : Hid (turnsN f s 64 = T 64) := by rw [hT]; exact (rfl : turnsN f s 64 = turnsN f s 64)
  clear hs hf hR hg hT
  go_enter Tryz.func70, Tryz.ntmps70
  go_wp2
  go_quiet (fail)
  go_wp2
  have HZ : Hid (((w.alloc (.cells (uC (castL s)) 119)).alloc (.cells (uC [0, 0, 0, 0, 0, 0, 0, 0]) 119)).heap[w.heap.size + 1]? = some (.cells (uC [0, 0, 0, 0, 0, 0, 0, 0]) 119 (0, 0))) := heap_alloc2_new w _ _
  have HK0 : Hid (Kept [] w ((w.alloc (.cells (uC (castL s)) 119)).alloc (.cells (uC [0, 0, 0, 0, 0, 0, 0, 0]) 119))) := ((Kept.refl [] w).alloc _).alloc _
  go_loopw [5, 6, 7, 8, 9, 10, 11, 12, 13] (fun s3 s4 s5 s6 s7 s8 s9 s10 c wr => ∃ k : Nat, k ≤ 64 ∧ c = .int .i64 k ∧ s3 = .int .u64 ((T k).a : Int) ∧ s4 = .int .u64 ((T k).b : Int) ∧ s5 = .int .u64 ((T k).c : Int) ∧ s6 = .int .u64 ((T k).d : Int) ∧ s7 = .int .u64 ((T k).e : Int) ∧ s8 = .int .u64 ((T k).f : Int) ∧ s9 = .int .u64 ((T k).g : Int) ∧ s10 = .int .u64 ((T k).h : Int) ∧ Hid (wr.heap[w.heap.size + 1]? = some (.cells (uC [0, 0, 0, 0, 0, 0, 0, 0]) 119 (0, 0))) ∧ Hid (Kept [] w wr)) (fun _ _ _ _ _ _ _ _ c _ => 64 - (intOf c).toNat)
  case atStart => exact ⟨0, Nat.zero_le _, rfl, by rw [T0.out], by rw [T0.out], by rw [T0.out], by rw [T0.out], by rw [T0.out], by rw [T0.out], by rw [T0.out], by rw [T0.out], HZ, HK0.out.drewN _⟩
  case round =>
    obtain ⟨k, hk, rfl, rfl, rfl, rfl, rfl, rfl, rfl, rfl, rfl, HZ1, HK1⟩ := hrel
    clear HZ HK0
    by_cases hlt : k < 64
    · have cK : wr.cell? ⟨4, k, none⟩ = some (.int .u64 ((turnKN[k]?.getD 0 : Nat) : Int)) := by
        obtain ⟨ty, fr, h⟩ := (HR.out.kept HK1.out (by simp) (by simp)).turn
        rw [← turnK_nat k hlt]
        exact uC_cell h hlt
      have cW := HK1.out.cell (HG.out k hlt) (by simp)
      have HN : Hid (T (k + 1) = turnN (turnKN[k]?.getD 0) (f k) (T k)) := TS.out k
      have HO : Hid ((T k).Ok) := TO.out k
      have hKl := turnK_lt k
      have hWl := HF.out k hlt
      generalize T k = S at *
      generalize turnKN[k]?.getD 0 = z at *
      generalize f k = y at *
      rcases S with ⟨xa, xb, xc, xd, xe, xf, xg, xh⟩
      go_wp2
      have q6 : ∀ W, Calls Tryz.prog 69 #[.int .u64 (xe : Int), .int .i64 6] W fun e w' => e = .returned (.int .u64 ((rotN xe 6 : Nat) : Int)) ∧ w' = W := fun W => turn_any xe 6 HO.out.e (by decide) W
      have q11 : ∀ W, Calls Tryz.prog 69 #[.int .u64 (xe : Int), .int .i64 11] W fun e w' => e = .returned (.int .u64 ((rotN xe 11 : Nat) : Int)) ∧ w' = W := fun W => turn_any xe 11 HO.out.e (by decide) W
      have q25 : ∀ W, Calls Tryz.prog 69 #[.int .u64 (xe : Int), .int .i64 25] W fun e w' => e = .returned (.int .u64 ((rotN xe 25 : Nat) : Int)) ∧ w' = W := fun W => turn_any xe 25 HO.out.e (by decide) W
      go_quiet (first
        | (go_at_call_of 69 (Value.int .i64 6); refine Calls.quiet_of_same (q6 _))
        | (go_at_call_of 69 (Value.int .i64 11); refine Calls.quiet_of_same (q11 _))
        | (go_at_call_of 69 (Value.int .i64 25); refine Calls.quiet_of_same (q25 _)))
      clear q6 q11 q25
      have q2 : ∀ W, Calls Tryz.prog 69 #[.int .u64 (xa : Int), .int .i64 2] W fun e w' => e = .returned (.int .u64 ((rotN xa 2 : Nat) : Int)) ∧ w' = W := fun W => turn_any xa 2 HO.out.a (by decide) W
      have q13 : ∀ W, Calls Tryz.prog 69 #[.int .u64 (xa : Int), .int .i64 13] W fun e w' => e = .returned (.int .u64 ((rotN xa 13 : Nat) : Int)) ∧ w' = W := fun W => turn_any xa 13 HO.out.a (by decide) W
      have q22 : ∀ W, Calls Tryz.prog 69 #[.int .u64 (xa : Int), .int .i64 22] W fun e w' => e = .returned (.int .u64 ((rotN xa 22 : Nat) : Int)) ∧ w' = W := fun W => turn_any xa 22 HO.out.a (by decide) W
      go_wp2_with (first
        | (go_at_call_of 69 (Value.int .i64 2); refine (q2 _).mono ?_; rintro e w3 ⟨rfl, hw3⟩; subst w3)
        | (go_at_call_of 69 (Value.int .i64 13); refine (q13 _).mono ?_; rintro e w3 ⟨rfl, hw3⟩; subst w3)
        | (go_at_call_of 69 (Value.int .i64 22); refine (q22 _).mono ?_; rintro e w3 ⟨rfl, hw3⟩; subst w3))
      go_roundw
      case rel =>
        obtain ⟨A, hA⟩ : ∃ A, A = (xh + upN xe + chN xe xf xg + z + y + (upM xa + majN xa xb xc)) % 4294967296 := ⟨_, rfl⟩
        obtain ⟨E, hE⟩ : ∃ E, E = (xd + (xh + upN xe + chN xe xf xg + z + y)) % 4294967296 := ⟨_, rfl⟩
        have HN' := HN.out
        rw [turnN_eq, ← hA, ← hE] at HN'
        refine ⟨k + 1, by omega, by go_num, ?_, ?_, ?_, ?_, ?_, ?_, ?_, ?_, HZ1, HK1.out.drewN _⟩ <;> simp only [HN']
        · rw [up64, um64, ch64 _ _ _ HO.out.e HO.out.f HO.out.g, maj64 _ _ _ HO.out.a HO.out.b HO.out.c, sum64 HO.out.h (upN_lt xe) (chN_lt HO.out.e) hKl hWl (upM_lt xa) (majN_lt HO.out.a HO.out.b), hA]
        · rw [up64, ch64 _ _ _ HO.out.e HO.out.f HO.out.g, sum64' HO.out.d HO.out.h (upN_lt xe) (chN_lt HO.out.e) hKl hWl, hE]
      case measure => simp [intOf]; omega
    · obtain rfl : k = 64 := by omega
      rw [show ((64 : Nat) : Int) = 64 from rfl]
      generalize T 64 = S at *
      have HS2 : Hid (turnsN f s 64 = S) := TE
      obtain ⟨C, hC⟩ : ∃ C, C = uC (castL S) := ⟨_, rfl⟩
      have HE : Hid (C = #[.int .u64 (S.a : Int), .int .u64 (S.b : Int), .int .u64 (S.c : Int), .int .u64 (S.d : Int), .int .u64 (S.e : Int), .int .u64 (S.f : Int), .int .u64 (S.g : Int), .int .u64 (S.h : Int)]) := hC.trans (eightC S)
      have hsz : (Tryz.prog.info? 119).map (·.size) = some C.size := by rw [hC, uC_size]; exact Tryz.infoU8
      have hall : C.all (·.oneCell') = true := by rw [hC]; exact all_oneCell_toArray (ints_oneCell .u64 (castL S))
      have hos : (uC [0, 0, 0, 0, 0, 0, 0, 0]).size = C.size := by rw [hC, uC_size, uC_size]; rfl
      have HC : Hid (C = uC (castL S)) := hC
      clear hC
      go_wp2_with (refine wpList_store_row rfl 119 (.tmp 4) (.tmp 106) rfl (w.heap.size + 1) C rfl (show Value.agg _ = Value.agg C by rw [HE.out]) 119 _ HZ1.out hsz hos hall ?_)
      refine bodyPost_ret (v := .agg C) ?_ rfl ⟨by rw [HS2.out, HC.out], kept_setRow HK1.out (by omega) _⟩
      rw [results_cell rfl]
      exact run_loadVar_row (P := Tryz.prog) (wr.setRow (w.heap.size + 1) C) (w.heap.size + 1) 119 119 C (0, 0) _ (setRow_heap _ _ _ _ _ _ HZ1.out) Tryz.underlying119 rfl hsz
end Go.Proofs.YtfcoeinhfdbcgaaGreatDoor

namespace Go.Proofs.YtfcoeinhfdbcgaaGreatDoor
open Go.RowKit

/-- 'append' of bytes at a step of a drawn region, guarded or not. -/
theorem step_append_wanted {ops : Array Oper} {o : Oper} {a : Act} {w : World} {K : Act → World → Prop} {Q : Exit → Act → World → Prop} {E : Prop} (hw : Region.wanted o (yielded ops a.tmps) = true) (s x : Operand)
    (ho : o.op = .call { callee := .builtin .append, args := #[s, x], argTypes := #[26, 26] }) {B : Nat} {v : Value} {vs : List Int} (hs : a.eval s = v) (hown : OwnB w B v vs)
    {X : Value} {zs : List Int} (hx : a.eval x = X) (hX : BytesAt w X zs) (hl : vs.length + zs.length ≤ 140737488355328) (hB : B ≤ w.heap.size)
    (h : ∀ v' w', Appended w w' B v v' (vs ++ zs) → K (a.put o.dst v') w') : if Region.wanted o (yielded ops a.tmps) = true then Oper.wp Tryz.prog o a w K Q else E := by
  rw [if_pos hw]
  obtain ⟨v', w', hr, h2⟩ := run_append_bytes hown hX hl hB o.type
  unfold Oper.wp execOp
  simp only [ho, resolve, invoke, builtin, Sem.run_bind, Sem.run_pure, Result.andThen_ok, List.map_toArray, List.map_cons, List.map_nil, hs, hx, hr]
  exact h v' w' h2
/-- A row that was laid alone is one's own. -/
theorem own_row {w : World} {g : Nat} {ys : List Int} (h : w.heap[g]? = some (.cells (ys.map (Value.int .u8)).toArray 5 (0, 0))) (hm : ys.length ≤ 140737488355328) : OwnB w g (.slice (some ⟨g, 0, none⟩) ys.length ys.length) ys :=
  ⟨by simp, Or.inr ⟨g, ys.length, _, rfl, Nat.le_refl _, h, Nat.le_refl _, by unfold maxLen; omega, by simp, by rw [Nat.mul_one]; exact List.take_of_length_le (by simp)⟩⟩

theorem mem_toList_some {o : Option Nat} {k : Nat} (h : o = some k) : k ∈ o.toList := by
  subst h
  simp
theorem of_mem_toList {o : Option Nat} {k : Nat} (h : k ∈ o.toList) : o = some k := by simpa using h
/-- Two lists of one's own: one of them is appended to. -/
theorem pair_step {w4 wr w6 : World} {o : Obj} {s5 s6 v5 : Value} {a b a' : List Int} (h5 : OwnB wr w4.heap.size s5 a) (h6 : OwnB wr w4.heap.size s6 b) (hd : ∀ x, s5.ownBlock = some x → s6.ownBlock ≠ some x) (hk : Kept [] w4 wr) (ha : Appended (wr.alloc o) w6 w4.heap.size s5 v5 a') :
    OwnB w6 w4.heap.size s6 b ∧ (∀ x, v5.ownBlock = some x → s6.ownBlock ≠ some x) ∧ Kept [] w4 w6 := by
  have k1 : Kept s5.ownBlock.toList (wr.alloc o) w6 := ha.keep _ _ (Kept.refl _ _) (fun k hk => Or.inl (by simp [hk]))
  refine ⟨(h6.kept ((Kept.refl [] wr).alloc o) (by simp)).kept k1 (fun x hx hm => hd x (by simpa using hm) hx), fun x hx hy => ?_, ha.keep w4 [] (hk.alloc o) (fun k hk => Or.inr (World.ownsRow.lt h5 k hk).1)⟩
  rcases ha.at' with h | h
  · exact hd x (h ▸ hx) hy
  · rw [h] at hx
    have h1 := (World.ownsRow.lt h6 x hy).2
    have h2 : (wr.alloc o).heap.size = x := by simpa using hx
    simp at h2
    omega

end Go.Proofs.YtfcoeinhfdbcgaaGreatDoor

namespace Go.Proofs.YtfcoeinhfdbcgaaGreatDoor
open Go.RowKit

theorem Tryz.info_u64 : (Tryz.prog.info? 31).map (fun i => (i.zero, i.size, i.bytes)) = some (some (.int .u64 0), 1, 8) := by kernel_rfl
theorem Tryz.size_u64 : (Tryz.prog.info? 31).map (·.size) = some 1 := by kernel_rfl
theorem map_oneCell64 (ys : List Int) : ∀ v, v ∈ ys.map (Value.int .u64) → v.oneCell' = true := ints_oneCell .u64 ys

/-- v is a list of the words ys in memory of its own, none of it below B. -/
def OwnU (w : World) (B : Nat) (v : Value) (ys : List Int) : Prop := w.ownsRow B 31 1 v ys.length (ys.map (Value.int .u64))
theorem OwnU.kept {w w' : World} {B : Nat} {v : Value} {ys : List Int} {T : List Nat} (h : OwnU w B v ys) (k : Kept T w w') (hd : ∀ x, v.ownBlock = some x → x ∉ T) : OwnU w' B v ys := by
  refine ⟨h.1, ?_⟩
  rcases h.2 with hn | ⟨g, cap', cur, hv, hg, hh, rest⟩
  · exact Or.inl hn
  · refine Or.inr ⟨g, cap', cur, hv, hg, k.heap hh (hd g ?_), rest⟩
    rw [hv]; rfl
theorem OwnU.nil (w : World) (B : Nat) : OwnU w B (.slice none 0 0) [] := World.ownsRow_nil w _ _ _
/-- What the walks ask of such a list. -/
theorem OwnU.parts {w : World} {B : Nat} {v : Value} {ys : List Int} (h : OwnU w B v ys) (hn : ys ≠ []) : ∃ g cap, v = .slice (some ⟨g, 0, none⟩) ys.length cap ∧ B ≤ g ∧ g < w.heap.size ∧ ys.length ≤ cap ∧ ∀ i, i < ys.length → w.cell? ⟨g, i, none⟩ = some (.int .u64 (at0 ys i)) := by
  rcases h.2 with ⟨_, h0⟩ | ⟨g, cap', cur, hv, hg, hh, hnc, hcm, hcs, htk⟩
  · exact absurd (List.eq_nil_of_length_eq_zero h0) hn
  · refine ⟨g, cap', hv, hg, lt_of_block hh, hnc, fun i hi => ?_⟩
    rw [cell_of_row w g i _ _ _ hh, ← Array.getElem?_toList]
    have h2 : (cur.toList.take (ys.length * 1))[i]? = cur.toList[i]? := List.getElem?_take_of_lt (by omega)
    rw [← h2, htk]
    simp [at0, List.getElem?_eq_getElem hi]

/-- What 'append' of a word leaves. -/
structure AppendedU (w w' : World) (B : Nat) (v v' : Value) (us : List Int) : Prop where
  own : OwnU w' B v' us
  keep : ∀ (a : World) (S : List Nat), Kept S a w → (∀ k, v.ownBlock = some k → k ∈ S ∨ a.heap.size ≤ k) → Kept S a w'
  at' : v'.ownBlock = v.ownBlock ∨ v'.ownBlock = some w.heap.size

theorem wpList_append_word {ops : Array Oper} {rest : List Oper} {o : Oper} {a : Act} {w : World} {Q : Exit → Act → World → Prop} (hgd : o.guard = none) (s x : Operand)
    (ho : o.op = .call { callee := .builtin .append, args := #[s, x], argTypes := #[117, 117] }) {B : Nat} {v : Value} {vs : List Int} (hs : a.eval s = v) (hown : OwnU w B v vs)
    {q c : Nat} {z : Int} (hx : a.eval x = .slice (some ⟨q, 0, none⟩) 1 c) (hX : w.cell? ⟨q, 0, none⟩ = some (.int .u64 z)) (hl : (vs.length + 1) * 8 ≤ 140737488355328) (hB : B ≤ w.heap.size)
    (h : ∀ v' w', AppendedU w w' B v v' (vs ++ [z]) → wpList Tryz.prog ops Q rest (a.put o.dst v') w') : wpList Tryz.prog ops Q (o :: rest) a w := by
  obtain ⟨i0, hi, hz0, hz1, hz2⟩ := info_parts Tryz.info_u64
  refine wpList_append_own_at w hgd s x 117 ho B 31 i0 (.int .u64 0) 1 8 Tryz.underlying117 hi hz0 hz1 hz2 rfl (by decide) v vs.length _ hs hown ⟨q, 0, none⟩ 1 c [.int .u64 z] hx rfl ?_ (by simp [Value.oneCell']) (by unfold maxLen; omega) hl hB ?_
  · intro j u hu
    match j, hu with
    | 0, hu => cases hu; exact hX
  · intro v' w' h2 h3 _ h5
    refine h v' w' ⟨?_, fun a S h hk => h.grown h3 hk, h5⟩
    unfold OwnU
    rw [List.length_append, List.map_append]
    exact h2

/-- How many zeros the reference lays; its eight last bytes; its text. -/
def zerosN (n : Nat) : Nat := (119 - n % 64) % 64
def lastL (told : Int) : List Int := (List.range 8).map fun k => told / 2 ^ (56 - 8 * k) % 256
def headL (xs : List Int) : List Int := xs ++ [128]
def padR (xs : List Int) : List Int := headL xs ++ List.replicate (zerosN xs.length) 0 ++ lastL (8 * (xs.length : Int))
theorem zerosN_end (n j : Nat) (h : j ≤ zerosN n) : (n + 1 + j) % 64 = 56 ↔ j = zerosN n := by
  unfold zerosN at *
  omega
theorem padR_len (xs : List Int) : (padR xs).length % 64 = 0 ∧ (padR xs).length ≤ xs.length + 72 := by
  have h1 : (padR xs).length = xs.length + 1 + zerosN xs.length + 8 := by simp [padR, headL, lastL]; omega
  rw [h1]
  unfold zerosN
  omega
theorem padR_octs (xs : List Int) (ho : Octs xs) : Octs (padR xs) := by
  intro u hu
  unfold padR headL lastL at hu
  simp only [List.mem_append, List.mem_singleton, List.mem_replicate, List.mem_map] at hu
  rcases hu with ((h | h) | h) | ⟨k, _, h⟩
  · exact ho u h
  · omega
  · omega
  · omega

/-- A word of four bytes, so far; all words. -/
def accL (l : List Int) (i k : Nat) : Int := (List.range k).foldl (fun x j => 256 * x + at0 l (i + j)) 0
theorem accL_zero (l : List Int) (i : Nat) : accL l i 0 = 0 := rfl
theorem accL_succ (l : List Int) (i k : Nat) : accL l i (k + 1) = 256 * accL l i k + at0 l (i + k) := by
  unfold accL; rw [List.range_succ, List.foldl_append]; rfl
theorem octs_at0 {l : List Int} (h : Octs l) (i : Nat) : 0 ≤ at0 l i ∧ at0 l i ≤ 255 := by
  unfold at0
  by_cases hi : i < l.length
  · rw [List.getElem?_eq_getElem hi]; exact h _ (List.getElem_mem hi)
  · rw [List.getElem?_eq_none (by omega)]; decide
theorem accL_fits {l : List Int} (h : Octs l) (i k : Nat) : 0 ≤ accL l i k ∧ accL l i k < 256 ^ k := by
  induction k with
  | zero => rw [accL_zero]; decide
  | succ k ih =>
    have := octs_at0 h (i + k)
    rw [accL_succ, Int.pow_succ]
    omega
def wordsL (l : List Int) (n : Nat) : List Int := (List.range n).map fun i => accL l (4 * i) 4
theorem wordsL_succ (l : List Int) (n : Nat) : wordsL l (n + 1) = wordsL l n ++ [accL l (4 * n) 4] := by
  unfold wordsL; rw [List.range_succ, List.map_append]; rfl
theorem wordsL_len (l : List Int) (n : Nat) : (wordsL l n).length = n := by simp [wordsL]
theorem wordsL_at (l : List Int) (n i : Nat) (h : i < n) : at0 (wordsL l n) i = accL l (4 * i) 4 := by
  unfold at0 wordsL
  rw [List.getElem?_map, List.getElem?_range h]
  rfl
end Go.Proofs.YtfcoeinhfdbcgaaGreatDoor
