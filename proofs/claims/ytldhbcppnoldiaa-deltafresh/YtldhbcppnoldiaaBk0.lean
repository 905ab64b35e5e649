/-
  PAIRS OF LISTS as they are handed in.
  A LIST OF PAIRS OPENED: what a reading of it says of memory.
  THE BOOK of satchellaw1: its marks; WALKS: at, tight.
-/
import Derived.Test.YtldhbcppnoldiaaPlace0
import Derived.Test.YtldhbcppnoldiaaConv
import Derived.Test.YtldhbcppnoldiaaPlain2
import Derived.Test.YtldhbcppnoldiaaWriter
namespace Go.Proofs.Ytldhbcppnoldiaa
open Go.RowKit

/-- A pair as it is handed in. -/
structure DPr where
  ab : Option Addr
  cb : Nat
  bs : List Int
  ad : Option Addr
  cd : Nat
  ds : List Int
structure DPr.Good (p : DPr) (w : World) : Prop where
  b : BytesAt w (.slice p.ab p.bs.length p.cb) p.bs
  ob : Octs p.bs
  sb : p.bs.length ≤ 140737488351232
  d : BytesAt w (.slice p.ad p.ds.length p.cd) p.ds
  od : Octs p.ds
  sd : p.ds.length ≤ 140737488351232
theorem DPr.Good.kept {p : DPr} {w w' : World} (h : p.Good w) (k : Kept [] w w') : p.Good w' := ⟨h.b.kept k (fun _ _ => by simp), h.ob, h.sb, h.d.kept k (fun _ _ => by simp), h.od, h.sd⟩
/-- The slice of the pairs lies so. -/
def PairsAt (w : World) (v : Value) (ps : List DPr) : Prop :=
  ∃ ao cap, v = .slice ao ps.length cap ∧ ps.length ≤ 140737488351232 ∧
    (ps ≠ [] → ∃ b off, ao = some ⟨b, off, none⟩ ∧ ∀ (i : Nat) (p : DPr), ps[i]? = some p →
      w.cell? ⟨b, off + i * 2, none⟩ = some (.slice p.ab p.bs.length p.cb) ∧ w.cell? ⟨b, off + i * 2 + 1, none⟩ = some (.slice p.ad p.ds.length p.cd))
theorem Lent.mono {w : World} {B B' g cap : Nat} {ys : List Int} (h : Lent w B g cap ys) (hb : B' ≤ B) : Lent w B' g cap ys := OwnB.mono h hb
end Go.Proofs.Ytldhbcppnoldiaa

namespace Go.Proofs.Ytldhbcppnoldiaa
open Go.ChangeShapes Go.WideShapes Go.ChangeAt Go.RowKit Go.Deep

theorem Try.cells_pair : Try.prog.cellsOf 68 = 2 := by kernel_rfl
theorem Try.bytes_pair : Try.prog.bytesOf 68 = 48 := by kernel_rfl

section
variable {H : Type} {enc : TypeId × Value → H} {w : World} {base : Nat} {spare : Nat → Bool} {held : Bool} {fuel : Nat} {cs : List Value} {x : DataW H × List MemPlace}

set_option maxRecDepth 100000 in
/-- One pair, opened. -/
theorem open_pair (h : DataW.trod enc Try.prog w base spare held fuel 68 cs = some x) :
    ∃ p : DPr, cs = [.slice p.ab p.bs.length p.cb, .slice p.ad p.ds.length p.cd] ∧ ((DataW.weights Try.prog 68 x.1).all (· ≤ 140737488351232) = true → p.Good w) ∧ p.bs.length + p.ds.length + 1 ≤ Rows.uptoBulk x.1 := by
  obtain ⟨xs, n, rfl, rfl, hlen, hxs, hf⟩ := DataW.trod_struct Try.underlying68 h
  rw [Try.cells_pair] at hlen
  match cs, hlen with
  | [v0, v1], _ =>
    have f0 := hf 0 _ rfl
    have f1 := hf 1 _ rfl
    match xs, hxs with
    | [y0, y1], _ =>
      simp [Try.cells_bytes] at f0 f1
      obtain ⟨ao, cap, ys, e0, hb, ho, hw, hk⟩ := open_bytes f0
      obtain ⟨ad, cd, zs, e1, hb1, ho1, hw1, hk1⟩ := open_bytes f1
      simp only [List.cons.injEq, and_true] at e0 e1
      subst e0 e1
      refine ⟨⟨ao, cap, ys, ad, cd, zs⟩, rfl, fun hall => ?_, ?_⟩
      · simp only [DataW.weights, Try.underlying68, DataW.weightsEach, List.map_cons, List.map_nil, List.append_nil, List.all_append, Bool.and_eq_true] at hall
        exact ⟨hb, ho, hw _ hall.1, hb1, ho1, hw1 _ hall.2⟩
      · simp only [Rows.uptoBulk, Rows.uptoBulkAll, List.map_cons, List.map_nil]
        omega

theorem weights_each (e : TypeId) (l : List (DataW H)) (B : Nat) (h : (DataW.weightsAll Try.prog e l).all (· ≤ B) = true) : ∀ d, d ∈ l → (DataW.weights Try.prog e d).all (· ≤ B) = true := by
  induction l with
  | nil => intro d hd; simp at hd
  | cons a l ih =>
    intro d hd
    simp only [DataW.weightsAll, List.all_append, Bool.and_eq_true] at h
    rcases List.mem_cons.1 hd with rfl | hd
    · exact h.1
    · exact ih h.2 d hd
def sumD (ps : List DPr) : Nat := (ps.map fun p => p.bs.length + p.ds.length).sum
theorem sumD_le (O : Nat → DPr) (D : Nat → DataW H) : ∀ (l : List Nat), (∀ i, i ∈ l → (O i).bs.length + (O i).ds.length + 1 ≤ Rows.uptoBulk (D i)) → sumD (l.map O) + l.length ≤ Rows.uptoBulkAll (l.map D) := by
  intro l
  induction l with
  | nil => intro _; simp [sumD]
  | cons i l ih =>
    intro h
    have h1 := h i (by simp)
    have h2 := ih fun j hj => h j (by simp [hj])
    simp only [sumD, List.map_cons, List.sum_cons, List.length_cons, Rows.uptoBulkAll] at h2 ⊢
    omega

set_option maxRecDepth 100000 in
/-- The pairs, opened. -/
theorem open_pairs {r : Reach} {b0 : Nat} {v : Value} {d : DataW H} {p : List MemPlace} (hv : Value.okWide Try.prog w r b0 66 v) (h : DataW.Trod enc Try.prog w base spare held 66 v d p)
    (hB : (DataW.weights Try.prog 66 d).all (· ≤ 140737488351232) = true) :
    ∃ ps, PairsAt w v ps ∧ (∀ p, p ∈ ps → p.Good w) ∧ sumD ps + ps.length ≤ Rows.uptoBulk d := by
  obtain ⟨ao, len, cap, rfl⟩ := okWide_slice Try.underlying66 hv
  obtain ⟨fuel, hf⟩ := h
  rcases open_slice Try.underlying66 hf with ⟨hx, he⟩ | ⟨a, len', cap', m, n, D, Pl, hx, _, hl, hm, hmm, he, hel⟩
  · simp [Value.cells] at hx
    obtain ⟨rfl, rfl, rfl⟩ := hx
    exact ⟨[], ⟨none, 0, rfl, Nat.zero_le _, fun e => absurd rfl e⟩, fun o ho => by simp at ho, by simp [sumD]⟩
  · simp [Value.cells] at hx
    obtain ⟨rfl, rfl, rfl⟩ := hx
    have hlm : len ≤ m := by rw [hmm]; split <;> omega
    have hop : ∀ i, i < len → ∃ o : DPr, w.cells? base (a.add (i * 2)) 2 = some [.slice o.ab o.bs.length o.cb, .slice o.ad o.ds.length o.cd] ∧
        ((DataW.weights Try.prog 68 (D i)).all (· ≤ 140737488351232) = true → o.Good w) ∧ o.bs.length + o.ds.length + 1 ≤ Rows.uptoBulk (D i) := by
      intro i hi
      obtain ⟨cs', hc, ht⟩ := hel i (by omega)
      rw [Try.cells_pair] at hc
      obtain ⟨o, rfl, hg, hk⟩ := open_pair ht
      exact ⟨o, hc, hg, hk⟩
    have : Inhabited DPr := ⟨⟨none, 0, [], none, 0, []⟩⟩
    obtain ⟨O, hO⟩ := choose_lt hop
    have hlen : ((List.range len).map O).length = len := by simp
    simp only [Prod.mk.injEq] at he
    obtain ⟨rfl, _⟩ := he
    simp only [DataW.weights, Try.underlying66, Try.bytes_pair, List.all_cons, List.all_append, Bool.and_eq_true, decide_eq_true_eq, List.length_map, List.length_range] at hB
    obtain ⟨hB1, hB2, _⟩ := hB
    refine ⟨(List.range len).map O, ?_, ?_, ?_⟩
    · refine ⟨some a, cap, by rw [hlen], by rw [hlen]; omega, fun hne => ?_⟩
      have hpos : 0 < len := by
        rcases Nat.eq_zero_or_pos len with h0 | h0
        · subst h0; simp at hne
        · exact h0
      obtain ⟨b, off, spot⟩ := a
      have hspot : spot = none := by
        have h1 := ((World.cells?_some (hO 0 hpos).1).2.2 0 (by decide))
        simpa [Addr.add] using World.cell?_spot (h1.trans rfl)
      subst hspot
      refine ⟨b, off, rfl, fun i o ho => ?_⟩
      have hi : i < len := by have := (List.getElem?_eq_some_iff.1 ho).1; omega
      have eo : O i = o := by simpa [hi] using ho
      have hc := World.cells?_some (hO i hi).1
      rw [eo] at hc
      have h0 := hc.2.2 0 (by decide)
      have h1 := hc.2.2 1 (by decide)
      simp only [Addr.add_mid, Nat.add_zero] at h0 h1
      exact ⟨h0, h1⟩
    · intro o ho
      simp only [List.mem_map, List.mem_range] at ho
      obtain ⟨i, hi, rfl⟩ := ho
      exact (hO i hi).2.1 (weights_each _ _ _ hB2 _ (List.mem_map.2 ⟨i, List.mem_range.2 hi, rfl⟩))
    · have hs := sumD_le O D (List.range len) fun i hi => (hO i (List.mem_range.1 hi)).2.2
      rw [List.length_range] at hs
      rw [hlen]
      simp only [Rows.uptoBulk]
      omega
end
end Go.Proofs.Ytldhbcppnoldiaa

namespace Go.Proofs.Ytldhbcppnoldiaa
open Go.RowKit

/-- Byte k of the mark n. -/
def atM (n : Int) (k : Nat) : Int := if (k : Int) % 2 = 0 then 1 + n % 251 else 1 + (7 * n + n / 251) % 251
theorem atM_oct (n : Int) (k : Nat) : 0 ≤ atM n k ∧ atM n k ≤ 255 := by
  unfold atM
  split <;> omega
/-- The first k bytes of a mark. -/
def marks (n : Int) (k : Nat) : List Int := (List.range k).map (atM n)
theorem marks_len (n : Int) (k : Nat) : (marks n k).length = k := by simp [marks]
theorem marks_succ (n : Int) (k : Nat) : marks n (k + 1) = marks n k ++ [atM n k] := by simp [marks, List.range_succ]
theorem marks_get (n : Int) (k i : Nat) (h : i < k) : (marks n k)[i]? = some (atM n i) := by simp [marks, h]
theorem marks_octs (n : Int) (k : Nat) : Octs (marks n k) := fun u hu => by
  obtain ⟨i, _, rfl⟩ := List.mem_map.1 hu
  exact atM_oct n i

set_option maxHeartbeats 1000000 in
theorem at_any (n : Int) (h0 : 0 ≤ n) (h1 : n ≤ 1000000000) (k : Nat) (w : World) :
    Calls Try.prog 67 #[.int .i64 n, .int .i64 k] w fun e w' => e = .returned (.int .u8 (atM n k)) ∧ w' = w := by
  have hk : (0 : Int) ≤ k := by omega
  by_cases he : (k : Int) % 2 = 0
  · have HA : Hid (atM n k = 1 + n % 251) := by
      have e : atM n k = 1 + n % 251 := by unfold atM; rw [if_pos he]
      exact e
    have e1 : ((k : Int) % 2 == 0) = true := by simpa using he
    have w1 : IntKind.i64.wrap (1 + n % 251) = 1 + n % 251 := by rw [IntKind.wrap_i64]; omega
    have w2 : (1 + n % 251) % 256 = 1 + n % 251 := by omega
    clear he
    go_enter Try.func67, Try.ntmps67
    go_wp2
    go_ret
    exact ⟨by rw [HA.out]; exact rfl, rfl⟩
  · have HA : Hid (atM n k = 1 + (7 * n + n / 251) % 251) := by
      have e : atM n k = 1 + (7 * n + n / 251) % 251 := by unfold atM; rw [if_neg he]
      exact e
    have e1 : ((k : Int) % 2 == 0) = false := by simpa using he
    have p1 : 0 ≤ 7 * n + n / 251 := by omega
    have v1 : IntKind.i64.wrap (7 * n) = 7 * n := by rw [IntKind.wrap_i64]; omega
    have v2 : IntKind.i64.wrap (7 * n + n / 251) = 7 * n + n / 251 := by rw [IntKind.wrap_i64]; omega
    have w1 : IntKind.i64.wrap (1 + (7 * n + n / 251) % 251) = 1 + (7 * n + n / 251) % 251 := by rw [IntKind.wrap_i64]; omega
    have w2 : (1 + (7 * n + n / 251) % 251) % 256 = 1 + (7 * n + n / 251) % 251 := by omega
    clear he
    go_enter Try.func67, Try.ntmps67
    go_wp2
    go_ret
    exact ⟨by rw [HA.out]; exact rfl, rfl⟩
end Go.Proofs.Ytldhbcppnoldiaa
