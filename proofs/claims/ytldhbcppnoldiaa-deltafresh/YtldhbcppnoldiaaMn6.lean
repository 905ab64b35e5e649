/-
  WALK: (delta.index).find; a map by pieces of four bytes, and what it says. (Mk6 with the answer told: for that two calls of Make give the same.)
-/
import Derived.Test.YtldhbcppnoldiaaDsO
import Derived.WideKeyPair
import Derived.Deep.CutRange
namespace Go.Proofs.Ytldhbcppnoldiaa
open Go.RowKit Go.WideMaps

theorem Try.arrPc : ArrKey Try.prog 171 5 4 := ⟨Try.underlying171, by kernel_rfl, by kernel_rfl, by kernel_rfl⟩
theorem Try.typesPos : ∃ m, Try.prog.types.size = m + 1 := ⟨Try.prog.types.size - 1, by kernel_rfl⟩
theorem Try.keyPc : Maps.Keyed Try.prog 171 := Maps.Keyed.of_law Try.arrPc.law
theorem u8_wf {x : Int} (h0 : 0 ≤ x) (h1 : x ≤ 255) : (Lit.int .u8 x).wf = true := by
  have e1 : IntKind.u8.min = 0 := rfl
  have e2 : IntKind.u8.max = 255 := rfl
  simp only [Lit.wf, Bool.and_eq_true, decide_eq_true_eq, e1, e2]
  omega
/-- The key under which a piece lies. -/
def keyP (x0 x1 x2 x3 : Int) : Lit := .string (keyBytes [.int .u8 x0, .int .u8 x1, .int .u8 x2, .int .u8 x3])
theorem key_piece {x0 x1 x2 x3 : Int} (h0 : 0 ≤ x0 ∧ x0 ≤ 255) (h1 : 0 ≤ x1 ∧ x1 ≤ 255) (h2 : 0 ≤ x2 ∧ x2 ≤ 255) (h3 : 0 ≤ x3 ∧ x3 ≤ 255) :
    keyOf Try.prog 171 (.agg #[.int .u8 x0, .int .u8 x1, .int .u8 x2, .int .u8 x3]) = some (keyP x0 x1 x2 x3) := by
  have A := Try.arrPc
  have w0 := u8_wf h0.1 h0.2
  have w1 := u8_wf h1.1 h1.2
  have w2 := u8_wf h2.1 h2.2
  have w3 := u8_wf h3.1 h3.2
  have hkt := A.keyType Try.typesPos
  obtain ⟨m, hm⟩ := Try.typesPos
  unfold keyOf keyP
  simp only [A.hu]
  rw [if_pos (by simp [hkt, Value.formed, A.hu, A.size]), hm]
  unfold Program.keyLits
  simp only [A.hu, Value.cells]
  rw [if_pos (by rw [A.size]; rfl), show List.range 4 = [0, 1, 2, 3] from rfl, List.mapM_cons, List.mapM_cons, List.mapM_cons, List.mapM_cons, List.mapM_nil]
  simp [A.one, Program.keyLits, Try.underlying5, w0, w1, w2, w3]

/-- Numbers from 0 to below N, as the elements of a map. -/
def inR (N : Nat) : Value → Option (DataW Unit × List MemPlace)
  | .int .i64 a => if 0 ≤ a ∧ a < N then some (.lit (.int .i64 a), []) else none
  | _ => none
theorem inR_mk {N : Nat} {a : Int} (h : 0 ≤ a ∧ a < N) : inR N (.int .i64 a) = some (.lit (.int .i64 a), []) := if_pos h
theorem inR_inv {N : Nat} {v : Value} {z : DataW Unit × List MemPlace} (h : inR N v = some z) : ∃ a : Int, v = .int .i64 a ∧ 0 ≤ a ∧ a < N := by
  unfold inR at h
  split at h
  · rename_i a
    split at h
    · rename_i hc
      exact ⟨a, rfl, hc⟩
    · simp at h
  · simp at h
theorem Try.zeroInt (w : World) : (zeroValue 3).run Try.prog w = .ok (.int .i64 0) w := by kernel_rfl

def litN : DataW Unit → Int
  | .lit (.int _ a) => a
  | _ => 0
theorem inR_lit {N : Nat} {v : Value} {d : DataW Unit} {ps : List MemPlace} (h : inR N v = some (d, ps)) : v = .int .i64 (litN d) ∧ 0 ≤ litN d ∧ litN d < N := by
  unfold inR at h
  split at h
  · rename_i a
    split at h
    · rename_i hc
      simp only [Option.some.injEq, Prod.mk.injEq] at h
      obtain ⟨rfl, _⟩ := h
      exact ⟨rfl, hc⟩
    · simp at h
  · simp at h
/-- The place at which the map has the piece that a text begins with; -1: none. -/
def findD (D : DataW Unit) : List Int → Int
  | x0 :: x1 :: x2 :: x3 :: _ => if Maps.has D (keyP x0 x1 x2 x3) = true then litN (D.atKey (keyP x0 x1 x2 x3) (.lit (.int .i64 0))) else -1
  | _ => -1
theorem findD_short {D : DataW Unit} {ys : List Int} (h : ys.length < 4) : findD D ys = -1 := by
  match ys, h with
  | [], _ => rfl
  | [_], _ => rfl
  | [_, _], _ => rfl
  | [_, _, _], _ => rfl
  | _ :: _ :: _ :: _ :: r, h => simp at h; omega

/-- The map in block b: places of a base of N bytes; D is what it says. -/
def IdxMap (w : World) (b N : Nat) (D : DataW Unit) : Prop := ∃ n, w.ownsMap Try.prog 171 (inR (max N 1)) b n D ∧ n ≤ 65536 ∧ (N = 0 → D = .map [])
theorem IdxMap.kept {S : List Nat} {w w' : World} {b N : Nat} {D : DataW Unit} (h : IdxMap w b N D) (k : Kept S w w') (hb : b ∉ S) : IdxMap w' b N D := by
  obtain ⟨n, ⟨es, clock, hh, rest⟩, h2⟩ := h
  exact ⟨n, ⟨es, clock, k.heap hh hb, rest⟩, h2⟩
theorem IdxMap.look {w : World} {b N : Nat} {D : DataW Unit} (h : IdxMap w b N D) {key : Value} {kl : Lit} (hkey : keyOf Try.prog 171 key = some kl) :
    (Instr.lookup 128 (.map (some b)) key true).run Try.prog w = .ok (.tuple #[.int .i64 (litN (D.atKey kl (.lit (.int .i64 0)))), .bool (Maps.has D kl)]) w ∧ (Maps.has D kl = true → 0 ≤ litN (D.atKey kl (.lit (.int .i64 0))) ∧ litN (D.atKey kl (.lit (.int .i64 0))) < N) := by
  obtain ⟨n, ho, _, hN⟩ := h
  obtain ⟨v, ps, hrun, hv⟩ := ho.look_ok Try.keyPc Try.underlying128 (Try.zeroInt w) (inR_mk (N := max N 1) (a := 0) (by omega)) hkey
  obtain ⟨rfl, h0, h1⟩ := inR_lit hv
  refine ⟨hrun, fun hok => ⟨h0, ?_⟩⟩
  rcases Nat.eq_zero_or_pos N with e | e
  · rw [hN e] at hok
    simp [Maps.has] at hok
  · omega
/-- What is found lies in the base. -/
theorem IdxMap.found {w : World} {b N : Nat} {D : DataW Unit} (h : IdxMap w b N D) {ys : List Int} (ho : Octs ys) : findD D ys = -1 ∨ (0 ≤ findD D ys ∧ findD D ys < N) := by
  match ys, ho with
  | x0 :: x1 :: x2 :: x3 :: r, ho =>
    have h1 := (h.look (key_piece (ho x0 (by simp)) (ho x1 (by simp)) (ho x2 (by simp)) (ho x3 (by simp)))).2
    simp only [findD]
    split
    · rename_i hh
      exact Or.inr (h1 hh)
    · exact Or.inl rfl
  | [], _ => exact Or.inl rfl
  | [_], _ => exact Or.inl rfl
  | [_, _], _ => exact Or.inl rfl
  | [_, _, _], _ => exact Or.inl rfl

structure FindTo (w w' : World) (D : DataW Unit) (ys : List Int) (e : Ending) : Prop where
  kept : Kept [] w w'
  ends : e = .returned (.int .i64 (findD D ys))

set_option maxRecDepth 100000 in
set_option maxHeartbeats 4000000 in
theorem find_any {w : World} {b N nn cn cap : Nat} {an ao : Option Addr} {ys : List Int} {D : DataW Unit} (hm : IdxMap w b N D) (h : BytesAt w (.slice ao ys.length cap) ys) (ho : Octs ys) :
    Calls Try.prog 109 #[.agg #[.map (some b), .slice an nn cn], .slice ao ys.length cap] w fun e w' => FindTo w w' D ys e := by
  by_cases h4 : ys.length < 4
  · have t1 : decide ((ys.length : Int) < 4) = true := by simp; omega
    clear h hm
    go_enter Try.func109, Try.ntmps109
    go_wp2
    go_ret
    exact ⟨(Kept.refl _ _).alloc _, by rw [findD_short h4]; rfl⟩
  · have t1 : decide ((ys.length : Int) < 4) = false := by simp; omega
    match ys, h4, h, ho, t1 with
    | x0 :: x1 :: x2 :: x3 :: r, h4, h, ho, t1 =>
      have hkl := key_piece (ho x0 (by simp)) (ho x1 (by simp)) (ho x2 (by simp)) (ho x3 (by simp))
      have hfd : findD D (x0 :: x1 :: x2 :: x3 :: r) = if Maps.has D (keyP x0 x1 x2 x3) = true then litN (D.atKey (keyP x0 x1 x2 x3) (.lit (.int .i64 0))) else -1 := rfl
      obtain ⟨res, hres⟩ : ∃ res, res = findD D (x0 :: x1 :: x2 :: x3 :: r) := ⟨_, rfl⟩
      obtain ⟨n, hn⟩ : ∃ n, n = (x0 :: x1 :: x2 :: x3 :: r).length := ⟨_, rfl⟩
      rw [← hn] at h t1 h4 ⊢
      have k0 : Kept [] w (w.alloc (.cells #[.map (some b), .slice an nn cn] 130)) := (Kept.refl _ _).alloc _
      have hpc := fun q => pieceOf_any ((h.kept k0 (fun _ _ => by simp)).drewN q) (by omega)
      obtain ⟨c, hc⟩ : ∃ c, c = litN (D.atKey (keyP x0 x1 x2 x3) (.lit (.int .i64 0))) := ⟨_, rfl⟩
      obtain ⟨ok, hok⟩ : ∃ ok, ok = Maps.has D (keyP x0 x1 x2 x3) := ⟨_, rfl⟩
      have HM : Hid (∀ W, Kept [] w W → (Instr.lookup 128 (.map (some b)) (.agg #[.int .u8 x0, .int .u8 x1, .int .u8 x2, .int .u8 x3]) true).run Try.prog W = .ok (.tuple #[.int .i64 c, .bool ok]) W) := fun W k => by
        rw [hc, hok]
        exact ((hm.kept k (by simp)).look hkl).1
      have HRes : Hid (findD D (x0 :: x1 :: x2 :: x3 :: r) = if ok = true then c else -1) := by rw [hok, hc]; exact hfd
      clear hfd hres hc hok
      clear h hm ho hn hkl h4
      go_enter Try.func109, Try.ntmps109
      go_wp2_with fail
      go_cut [5, 6] from 10 to 18 (fun s5 s6 wx => s5 = .int .i64 c ∧ s6 = .bool ok ∧ Hid (Kept [] w wx))
      case first =>
        go_region_with (go_at_call 110; refine (hpc _).mono ?_; rintro e w2 ⟨rfl, k2⟩; have K2 : Kept [] w w2 := k0.then k2.undrewN; have bx := k2.undrewN.heap (heap_alloc_new w (.cells #[.map (some b), .slice an nn cn] 130)) (by simp); obtain ⟨q1, q2, q3⟩ := own_facts bx; have hrun := HM.out w2 K2; have HOK : Hid (Kept [] w w2) := K2; clear K2 k2 bx)
        all_goals (go_wp2_with fail; go_meet; exact ⟨rfl, rfl, HOK.out⟩)
      case rest =>
      obtain ⟨rfl, rfl, HK⟩ := hcut
      clear hpc HM
      cases ok with
      | true =>
        go_wp2
        go_ret
        exact ⟨HK.out, by rw [HRes.out]; simp⟩
      | false =>
        go_wp2
        go_ret
        exact ⟨HK.out, by rw [HRes.out]; simp⟩
    | [], h4, _, _, _ => exact absurd (by simp) h4
    | [_], h4, _, _, _ => exact absurd (by simp) h4
    | [_, _], h4, _, _, _ => exact absurd (by simp) h4
    | [_, _, _], h4, _, _, _ => exact absurd (by simp) h4
end Go.Proofs.Ytldhbcppnoldiaa
