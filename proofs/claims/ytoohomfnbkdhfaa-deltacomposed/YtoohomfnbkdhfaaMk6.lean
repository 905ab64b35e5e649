/-
  WALK: (delta.index).find; a map by pieces of four bytes.
-/
import Derived.Test.YtoohomfnbkdhfaaMk5
import Derived.WideKeyPair
import Derived.Deep.CutRange
namespace Go.Proofs.Ytoohomfnbkdhfaa
open Go.RowKit Go.WideMaps

theorem Try.arrPc : ArrKey Try.prog 138 5 4 := ⟨Try.underlying138, by kernel_rfl, by kernel_rfl, by kernel_rfl⟩
theorem Try.typesPos : ∃ m, Try.prog.types.size = m + 1 := ⟨Try.prog.types.size - 1, by kernel_rfl⟩
theorem Try.keyPc : Maps.Keyed Try.prog 138 := Maps.Keyed.of_law Try.arrPc.law
theorem u8_wf {x : Int} (h0 : 0 ≤ x) (h1 : x ≤ 255) : (Lit.int .u8 x).wf = true := by
  have e1 : IntKind.u8.min = 0 := rfl
  have e2 : IntKind.u8.max = 255 := rfl
  simp only [Lit.wf, Bool.and_eq_true, decide_eq_true_eq, e1, e2]
  omega
theorem key_piece {x0 x1 x2 x3 : Int} (h0 : 0 ≤ x0 ∧ x0 ≤ 255) (h1 : 0 ≤ x1 ∧ x1 ≤ 255) (h2 : 0 ≤ x2 ∧ x2 ≤ 255) (h3 : 0 ≤ x3 ∧ x3 ≤ 255) :
    ∃ kl, keyOf Try.prog 138 (.agg #[.int .u8 x0, .int .u8 x1, .int .u8 x2, .int .u8 x3]) = some kl := by
  have A := Try.arrPc
  have w0 := u8_wf h0.1 h0.2
  have w1 := u8_wf h1.1 h1.2
  have w2 := u8_wf h2.1 h2.2
  have w3 := u8_wf h3.1 h3.2
  have hkt := A.keyType Try.typesPos
  obtain ⟨m, hm⟩ := Try.typesPos
  refine ⟨.string (keyBytes [.int .u8 x0, .int .u8 x1, .int .u8 x2, .int .u8 x3]), ?_⟩
  unfold keyOf
  simp only [A.hu]
  rw [if_pos (by simp [hkt, Value.formed, A.hu, A.size]), hm]
  unfold Program.keyLits
  simp only [A.hu, Value.cells]
  rw [if_pos (by rw [A.size]; rfl), show List.range 4 = [0, 1, 2, 3] from rfl, List.mapM_cons, List.mapM_cons, List.mapM_cons, List.mapM_cons, List.mapM_nil]
  simp [A.one, Program.keyLits, Try.underlying5, w0, w1, w2, w3]

/-- Numbers from 0 to below N, as the elements of a map. -/
def inR (N : Nat) : Value → Option (DataW Unit × List MemPlace)
  | .int .i64 a => if 0 ≤ a ∧ a < N then some (.lit (.int .i64 a), []) else none
  | _ => none
theorem inR_mk {N : Nat} {a : Int} (h : 0 ≤ a ∧ a < N) : inR N (.int .i64 a) = some (.lit (.int .i64 a), []) := if_pos h
theorem inR_inv {N : Nat} {v : Value} {z : DataW Unit × List MemPlace} (h : inR N v = some z) : ∃ a : Int, v = .int .i64 a ∧ 0 ≤ a ∧ a < N := by
  unfold inR at h
  split at h
  · rename_i a
    split at h
    · rename_i hc
      exact ⟨a, rfl, hc⟩
    · simp at h
  · simp at h
theorem Try.zeroInt (w : World) : (zeroValue 3).run Try.prog w = .ok (.int .i64 0) w := by kernel_rfl

/-- The map in block b: places of a base of N bytes. -/
def IdxMap (w : World) (b N : Nat) : Prop := ∃ n D, w.ownsMap Try.prog 138 (inR (max N 1)) b n D ∧ n ≤ 65536 ∧ (N = 0 → D = .map [])
theorem IdxMap.kept {S : List Nat} {w w' : World} {b N : Nat} (h : IdxMap w b N) (k : Kept S w w') (hb : b ∉ S) : IdxMap w' b N := by
  obtain ⟨n, D, ⟨es, clock, hh, rest⟩, h2⟩ := h
  exact ⟨n, D, ⟨es, clock, k.heap hh hb, rest⟩, h2⟩
theorem IdxMap.look {w : World} {b N : Nat} (h : IdxMap w b N) {key : Value} {kl : Lit} (hkey : keyOf Try.prog 138 key = some kl) :
    ∃ (c : Int) (ok : Bool), (Instr.lookup 117 (.map (some b)) key true).run Try.prog w = .ok (.tuple #[.int .i64 c, .bool ok]) w ∧ (ok = true → 0 ≤ c ∧ c < N) := by
  obtain ⟨n, D, ho, _, hN⟩ := h
  obtain ⟨v, ps, hrun, hv⟩ := ho.look_ok Try.keyPc Try.underlying117 (Try.zeroInt w) (inR_mk (N := max N 1) (a := 0) (by omega)) hkey
  obtain ⟨a, rfl, h0, h1⟩ := inR_inv hv
  refine ⟨a, _, hrun, fun hok => ⟨h0, ?_⟩⟩
  rcases Nat.eq_zero_or_pos N with e | e
  · rw [hN e] at hok
    simp [Maps.has] at hok
  · omega

structure FindTo (w w' : World) (N : Nat) (e : Ending) : Prop where
  kept : Kept [] w w'
  ends : ∃ r : Int, e = .returned (.int .i64 r) ∧ (r = -1 ∨ (0 ≤ r ∧ r < N))

set_option maxRecDepth 100000 in
set_option maxHeartbeats 4000000 in
theorem find_any {w : World} {b N nn cn cap : Nat} {an ao : Option Addr} {ys : List Int} (hm : IdxMap w b N) (h : BytesAt w (.slice ao ys.length cap) ys) (ho : Octs ys) :
    Calls Try.prog 88 #[.agg #[.map (some b), .slice an nn cn], .slice ao ys.length cap] w fun e w' => FindTo w w' N e := by
  by_cases h4 : ys.length < 4
  · have t1 : decide ((ys.length : Int) < 4) = true := by simp; omega
    clear h hm
    go_enter Try.func88, Try.ntmps88
    go_wp2
    go_ret
    exact ⟨(Kept.refl _ _).alloc _, _, rfl, Or.inl rfl⟩
  · have t1 : decide ((ys.length : Int) < 4) = false := by simp; omega
    match ys, h4, h, ho, t1 with
    | x0 :: x1 :: x2 :: x3 :: r, h4, h, ho, t1 =>
      obtain ⟨kl, hkl⟩ := key_piece (ho x0 (by simp)) (ho x1 (by simp)) (ho x2 (by simp)) (ho x3 (by simp))
      obtain ⟨n, hn⟩ : ∃ n, n = (x0 :: x1 :: x2 :: x3 :: r).length := ⟨_, rfl⟩
      rw [← hn] at h t1 h4 ⊢
      have k0 : Kept [] w (w.alloc (.cells #[.map (some b), .slice an nn cn] 119)) := (Kept.refl _ _).alloc _
      have hpc := fun q => pieceOf_any ((h.kept k0 (fun _ _ => by simp)).drewN q) (by omega)
      have HM : Hid (∀ W, Kept [] w W → ∃ (c : Int) (ok : Bool), (Instr.lookup 117 (.map (some b)) (.agg #[.int .u8 x0, .int .u8 x1, .int .u8 x2, .int .u8 x3]) true).run Try.prog W = .ok (.tuple #[.int .i64 c, .bool ok]) W ∧ (ok = true → 0 ≤ c ∧ c < N)) := fun W k => (hm.kept k (by simp)).look hkl
      clear h hm ho hn hkl h4
      go_enter Try.func88, Try.ntmps88
      go_wp2_with fail
      go_cut [5, 6] from 10 to 18 (fun s5 s6 wx => ∃ (c : Int) (ok : Bool), s5 = .int .i64 c ∧ s6 = .bool ok ∧ Hid ((ok = true → 0 ≤ c ∧ c < N) ∧ Kept [] w wx))
      case first =>
        go_region_with (go_at_call 89; refine (hpc _).mono ?_; rintro e w2 ⟨rfl, k2⟩; have K2 : Kept [] w w2 := k0.then k2.undrewN; have bx := k2.undrewN.heap (heap_alloc_new w (.cells #[.map (some b), .slice an nn cn] 119)) (by simp); obtain ⟨q1, q2, q3⟩ := own_facts bx; obtain ⟨c, ok, hrun, hok⟩ := HM.out w2 K2; have HOK : Hid ((ok = true → 0 ≤ c ∧ c < N) ∧ Kept [] w w2) := ⟨hok, K2⟩; clear hok k2 bx)
        all_goals (go_wp2_with fail; go_meet; exact ⟨c, ok, rfl, rfl, HOK.out⟩)
      case rest =>
      obtain ⟨c, ok, rfl, rfl, HOK⟩ := hcut
      have HOK1 : Hid (ok = true → 0 ≤ c ∧ c < N) := HOK.out.1
      have HK : Hid (Kept [] w wc) := HOK.out.2
      clear HOK hpc HM
      cases ok with
      | true =>
        have HR : Hid (0 ≤ c ∧ c < N) := HOK1.out rfl
        clear HOK1
        go_wp2
        go_ret
        exact ⟨HK.out, _, rfl, Or.inr HR.out⟩
      | false =>
        go_wp2
        go_ret
        exact ⟨HK.out, _, rfl, Or.inl rfl⟩
    | [], h4, _, _, _ => exact absurd (by simp) h4
    | [_], h4, _, _, _ => exact absurd (by simp) h4
    | [_, _], h4, _, _, _ => exact absurd (by simp) h4
    | [_, _, _], h4, _, _, _ => exact absurd (by simp) h4
end Go.Proofs.Ytoohomfnbkdhfaa
