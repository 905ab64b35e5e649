/-
  WALKS: (*delta.maker).copied, fresh; delta.begin.
-/
import Derived.Test.YtldhbcppnoldiaaMk1
import Derived.Test.YtldhbcppnoldiaaMk2
import Derived.Test.YtldhbcppnoldiaaWVar
namespace Go.Proofs.Ytldhbcppnoldiaa
open Go.RowKit

/-- A maker and its Writer, all in memory that is newer than w0; S: what is the Writer's. -/
structure Mkr (w0 W : World) (mb wb : Nat) (vb vt : Value) (zs : List Int) (S : List Nat) : Prop where
  kept : Kept [] w0 W
  box : MkrIs W mb vb vt wb
  wr : WAt W wb w0.heap.size zs S
  ne : mb ∉ S
  ge : w0.heap.size ≤ mb
def MWrote (w0 w w' : World) (mb wb : Nat) (vb vt : Value) (zs : List Int) (S : List Nat) : Prop :=
  ∃ S', Mkr w0 w' mb wb vb vt zs S' ∧ Kept S w w' ∧ ∀ x, x ∈ S' → x ∈ S ∨ w.heap.size ≤ x
theorem Mkr.on {w0 W W' : World} {mb wb : Nat} {vb vt : Value} {zs : List Int} {S : List Nat} (P : Mkr w0 W mb wb vb vt zs S) {T : List Nat} (k : Kept T W W') (h1 : mb ∉ T) (h2 : ∀ x, x ∈ S → x ∉ T) (h3 : ∀ x, x ∈ T → w0.heap.size ≤ x) : Mkr w0 W' mb wb vb vt zs S :=
  ⟨P.kept.trans k (fun x hx => Or.inr (h3 x hx)), k.heap P.box h1, P.wr.kept k h2, P.ne, P.ge⟩
theorem Mkr.on0 {w0 W W' : World} {mb wb : Nat} {vb vt : Value} {zs : List Int} {S : List Nat} (P : Mkr w0 W mb wb vb vt zs S) (k : Kept [] W W') : Mkr w0 W' mb wb vb vt zs S := P.on k (by simp) (fun _ _ => by simp) (by simp)
theorem Mkr.wrote {w0 W W' : World} {mb wb : Nat} {vb vt : Value} {zs zs' : List Int} {S : List Nat} (P : Mkr w0 W mb wb vb vt zs S) (h : Wrote W W' wb w0.heap.size zs' S) : MWrote w0 W W' mb wb vb vt zs' S := by
  obtain ⟨S', h1, k, h2⟩ := h
  have hlt := P.wr.lt
  have hm := lt_of_block P.box
  refine ⟨S', ⟨P.kept.trans k (fun x hx => Or.inr (hlt x hx).1), k.heap P.box P.ne, h1, fun hx => ?_, P.ge⟩, k, h2⟩
  rcases h2 mb hx with h | h
  · exact P.ne h
  · omega
theorem MWrote.refl {w0 W : World} {mb wb : Nat} {vb vt : Value} {zs : List Int} {S : List Nat} (P : Mkr w0 W mb wb vb vt zs S) : MWrote w0 W W mb wb vb vt zs S := ⟨S, P, Kept.refl _ _, fun _ hx => Or.inl hx⟩
theorem MWrote.trans {w0 w w1 w2 : World} {mb wb : Nat} {vb vt : Value} {us : List Int} {S S1 : List Nat} (k1 : Kept S w w1) (hS : ∀ x, x ∈ S1 → x ∈ S ∨ w.heap.size ≤ x) (h : MWrote w0 w1 w2 mb wb vb vt us S1) : MWrote w0 w w2 mb wb vb vt us S := by
  obtain ⟨S2, h1, k2, h2⟩ := h
  refine ⟨S2, h1, k1.trans k2 hS, fun x hx => ?_⟩
  rcases h2 x hx with h | h
  · exact hS x h
  · exact Or.inr (Nat.le_trans k1.size h)

def cpE (st n : Nat) : List Int := if n = 0 then [] else (Cd.cp st n).enc
def newE (ts : List Int) : List Int := if ts.length = 0 then [] else (Cd.new ts).enc
theorem Mkr.cells {w0 W : World} {mb wb : Nat} {vb vt : Value} {zs : List Int} {S : List Nat} (P : Mkr w0 W mb wb vb vt zs S) : W.cell? ⟨mb, 0, none⟩ = some vb ∧ W.cell? ⟨mb, 1, none⟩ = some vt ∧ W.cell? ⟨mb, 2, none⟩ = some (.pointer (some ⟨wb, 0, none⟩)) :=
  ⟨cell_of_row _ _ _ _ _ _ P.box, cell_of_row _ _ _ _ _ _ P.box, cell_of_row _ _ _ _ _ _ P.box⟩

set_option maxRecDepth 100000 in
set_option maxHeartbeats 2000000 in
theorem mcopied_any {w0 w : World} {mb wb : Nat} {vb vt : Value} {zs : List Int} {S : List Nat} (P : Mkr w0 w mb wb vb vt zs S) (st n : Nat) (hst : st ≤ 65536) (hn : n ≤ 65536) (hz : zs.length ≤ 1073741824) :
    Calls Try.prog 53 #[.pointer (some ⟨mb, 0, none⟩), .int .i64 st, .int .i64 n] w fun e w' => e = .returned (.tuple #[]) ∧ MWrote w0 w w' mb wb vb vt (zs ++ cpE st n) S := by
  by_cases h0 : n = 0
  · subst h0
    have HP : Hid (MWrote w0 w w mb wb vb vt (zs ++ cpE st 0) S) := by
      have e : zs ++ cpE st 0 = zs := by simp [cpE]
      rw [e]
      exact MWrote.refl P
    clear P
    go_enter Try.func53, Try.ntmps53
    go_wp2
    go_end0
    exact ⟨rfl, HP.out⟩
  · have hpos : decide (0 < (n : Int)) = true := by simp; omega
    obtain ⟨g0, g1, g2⟩ := P.cells
    have w1 : IntKind.i64.wrap (2 * (n : Int)) = 2 * n := by rw [IntKind.wrap_i64]; omega
    have w2 : IntKind.i64.wrap (2 * (n : Int) + 1) = 2 * n + 1 := by rw [IntKind.wrap_i64]; omega
    have w3 : IntKind.u64.wrap (2 * (n : Int) + 1) = 2 * n + 1 := by rw [IntKind.wrap_u64]; omega
    have w4 : IntKind.u64.wrap (st : Int) = st := by rw [IntKind.wrap_u64]; omega
    have hc1 := WVar_any P.wr P.kept.size (2 * (n : Int) + 1) (by omega) (by omega) (by omega)
    have HP : Hid (Mkr w0 w mb wb vb vt zs S) := P
    clear P
    go_enter Try.func53, Try.ntmps53
    go_wp2_with fail
    go_at_call 36
    refine hc1.mono ?_
    rintro e wa ⟨rfl, hw⟩
    obtain ⟨S1, P1, k1, h1⟩ := HP.out.wrote hw
    clear g0 g1 g2 hc1 hw
    obtain ⟨g0, g1, g2⟩ := P1.cells
    have hl1 : (varB (2 * (n : Int) + 1)).length ≤ 10 := varB_len _ (by omega) (by omega)
    have hc2 := WVar_any P1.wr P1.kept.size (st : Int) (by omega) (by omega) (by rw [List.length_append]; omega)
    have HP1 : Hid (Mkr w0 wa mb wb vb vt (zs ++ varB (2 * (n : Int) + 1)) S1) := P1
    have HK1 : Hid (Kept S w wa) := k1
    have HS1 : Hid (∀ x, x ∈ S1 → x ∈ S ∨ w.heap.size ≤ x) := h1
    clear P1 k1 h1
    go_wp2_with fail
    go_at_call 36
    refine hc2.mono ?_
    rintro e wc ⟨rfl, hw⟩
    have HF : Hid (MWrote w0 w wc mb wb vb vt (zs ++ cpE st n) S) := by
      have h := MWrote.trans HK1.out HS1.out (HP1.out.wrote hw)
      have e : zs ++ varB (2 * (n : Int) + 1) ++ varB (st : Int) = zs ++ cpE st n := by
        unfold cpE
        rw [if_neg h0, List.append_assoc]
        rfl
      rw [e] at h
      exact h
    clear hc2 hw HP1
    go_wp2
    go_end0
    exact ⟨rfl, HF.out⟩

set_option maxRecDepth 100000 in
set_option maxHeartbeats 2000000 in
theorem mfresh_any {w0 w : World} {mb wb : Nat} {vb vt : Value} {zs : List Int} {S : List Nat} (P : Mkr w0 w mb wb vb vt zs S) {ao : Option Addr} {cap : Nat} {ts : List Int} (ht : BytesAt w (.slice ao ts.length cap) ts) (hot : Octs ts) (htb : ts ≠ [] → ∀ k, blkOf (.slice ao ts.length cap) = some k → k < w0.heap.size) (hn : ts.length ≤ 65536) (hz : zs.length ≤ 1073741824) :
    Calls Try.prog 88 #[.pointer (some ⟨mb, 0, none⟩), .slice ao ts.length cap] w fun e w' => e = .returned (.tuple #[]) ∧ MWrote w0 w w' mb wb vb vt (zs ++ newE ts) S := by
  by_cases h0 : ts.length = 0
  · have HP : Hid (MWrote w0 w w mb wb vb vt (zs ++ newE ts) S) := by
      have e : zs ++ newE ts = zs := by simp [newE, h0]
      rw [e]
      exact MWrote.refl P
    clear P ht htb
    go_enter Try.func88, Try.ntmps88
    go_wp2
    go_end0
    exact ⟨rfl, HP.out⟩
  · have hpos : decide (0 < (ts.length : Int)) = true := by simp; omega
    obtain ⟨g0, g1, g2⟩ := P.cells
    have w1 : IntKind.i64.wrap (2 * (ts.length : Int)) = 2 * ts.length := by rw [IntKind.wrap_i64]; omega
    have w3 : IntKind.u64.wrap (2 * (ts.length : Int)) = 2 * ts.length := by rw [IntKind.wrap_u64]; omega
    have hc1 := WVar_any P.wr P.kept.size (2 * (ts.length : Int)) (by omega) (by omega) (by omega)
    have HP : Hid (Mkr w0 w mb wb vb vt zs S) := P
    have HT : Hid (BytesAt w (.slice ao ts.length cap) ts) := ht
    have HTB : Hid (ts ≠ [] → ∀ k, blkOf (.slice ao ts.length cap) = some k → k < w0.heap.size) := htb
    clear P ht htb
    go_enter Try.func88, Try.ntmps88
    go_wp2_with fail
    go_at_call 36
    refine hc1.mono ?_
    rintro e wa ⟨rfl, hw⟩
    obtain ⟨S1, P1, k1, h1⟩ := HP.out.wrote hw
    have hlt := HP.out.wr.lt
    clear g0 g1 g2 hc1 hw
    obtain ⟨g0, g1, g2⟩ := P1.cells
    have hl1 : (varB (2 * (ts.length : Int))).length ≤ 10 := varB_len _ (by omega) (by omega)
    have hc2 := WRaw_any P1.wr P1.kept.size _ ts (HT.out.kept' k1 (fun hne x hx hS => by have a1 := HTB.out hne x hx; have a2 := (hlt x hS).1; omega)) hot (by rw [List.length_append]; omega)
    have HP1 : Hid (Mkr w0 wa mb wb vb vt (zs ++ varB (2 * (ts.length : Int))) S1) := P1
    have HK1 : Hid (Kept S w wa) := k1
    have HS1 : Hid (∀ x, x ∈ S1 → x ∈ S ∨ w.heap.size ≤ x) := h1
    clear P1 k1 h1 hlt
    go_wp2_with fail
    go_at_call 40
    refine hc2.mono ?_
    rintro e wc ⟨rfl, hw⟩
    have HF : Hid (MWrote w0 w wc mb wb vb vt (zs ++ newE ts) S) := by
      have h := MWrote.trans HK1.out HS1.out (HP1.out.wrote hw)
      have e : zs ++ varB (2 * (ts.length : Int)) ++ ts = zs ++ newE ts := by
        unfold newE
        rw [if_neg h0, List.append_assoc]
        rfl
      rw [e] at h
      exact h
    clear hc2 hw HP1
    go_wp2
    go_end0
    exact ⟨rfl, HF.out⟩

set_option maxRecDepth 100000 in
set_option maxHeartbeats 2000000 in
theorem begin_any {w : World} {ab ad : Option Addr} {nb nt cb ct : Nat} (hb : nb ≤ 65536) (ht : nt ≤ 65536) :
    Calls Try.prog 51 #[.slice ab nb cb, .slice ad nt ct] w fun e w' => ∃ mb wb S, e = .returned (.pointer (some ⟨mb, 0, none⟩)) ∧ Mkr w w' mb wb (.slice ab nb cb) (.slice ad nt ct) (varB (nb : Int) ++ varB (nt : Int)) S := by
  have hnew := New_any w w.heap.size (Nat.le_refl _)
  have w3 : IntKind.u64.wrap (nb : Int) = nb := by rw [IntKind.wrap_u64]; omega
  have w4 : IntKind.u64.wrap (nt : Int) = nt := by rw [IntKind.wrap_u64]; omega
  go_enter Try.func51, Try.ntmps51
  go_wp2_with fail
  go_at_call 6
  refine hnew.mono ?_
  rintro e w1 ⟨rfl, hw1, k1⟩
  have hwl := hw1.lt
  have P1 : Mkr w (w1.alloc (.cells #[.slice ab nb cb, .slice ad nt ct, .pointer (some ⟨w.heap.size, 0, none⟩)] 106)) w1.heap.size w.heap.size (.slice ab nb cb) (.slice ad nt ct) [] [w.heap.size] :=
    ⟨k1.alloc _, heap_alloc_new w1 _, hw1.kept (T := []) ((Kept.refl _ _).alloc _) (fun _ _ => by simp), fun h => by have := (hwl _ h).2; omega, k1.size⟩
  have hc1 := WVar_any P1.wr P1.kept.size (nb : Int) (by omega) (by omega) (by decide)
  have HP1 : Hid _ := P1
  clear hnew hw1 k1 hwl P1
  go_wp2_with fail
  go_at_call 36
  refine hc1.mono ?_
  rintro e w2 ⟨rfl, hw⟩
  obtain ⟨S2, P2, k2, h2⟩ := HP1.out.wrote hw
  obtain ⟨g0, g1, g2⟩ := P2.cells
  have hl1 : (varB (nb : Int)).length ≤ 10 := varB_len _ (by omega) (by omega)
  have hc2 := WVar_any P2.wr P2.kept.size (nt : Int) (by omega) (by omega) (by rw [List.nil_append]; omega)
  have HP2 : Hid _ := P2
  clear hc1 hw k2 h2 P2 HP1
  go_wp2_with fail
  go_at_call 36
  refine hc2.mono ?_
  rintro e w3 ⟨rfl, hw⟩
  obtain ⟨S3, P3, k3, h3⟩ := HP2.out.wrote hw
  have HP3 : Hid _ := P3
  clear hc2 hw k3 h3 P3 HP2 g0 g1 g2
  go_wp2
  go_ret
  exact ⟨_, _, S3, rfl, HP3.out⟩
end Go.Proofs.Ytldhbcppnoldiaa
