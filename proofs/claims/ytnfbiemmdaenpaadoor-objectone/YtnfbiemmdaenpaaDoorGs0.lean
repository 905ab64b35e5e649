/-
  GUESS of satchelref3 in memory; WALKS: its one, id, number, time.
-/
import Derived.Test.YtnfbiemmdaenpaaDoorPlain2
import Derived.Test.YtnfbiemmdaenpaaDoorWMoreA
import Derived.Test.YtnfbiemmdaenpaaDoorRows0
import Derived.Test.YtnfbiemmdaenpaaDoorObj0
import Derived.Test.YtnfbiemmdaenpaaDoorPlain
import Derived.Deep.MidRow
import Derived.Deep.QuietTactic
import Derived.Deep.RegionWith
namespace Go.Proofs.YtnfbiemmdaenpaaDoor
open Go.RowKit

/-- A Guess over bytes, at a place. -/
structure GAt (w : World) (g : Nat) (v : Value) (xs : List Int) (p : Nat) : Prop where
  box : w.heap[g]? = some (.cells #[v, .int .i64 (p : Int)] 101 (0, 0))
  bytes : BytesAt w v xs
  oct : Octs xs
  le : p ≤ xs.length
  len : xs.length ≤ 65536
  ne : xs ≠ [] → ∀ b, blkOf v = some b → b ≠ g
/-- The byte at a place; none: 0. -/
def xAt (xs : List Int) (p : Nat) : Int := xs[p]?.getD 0
def plus (xs : List Int) (p k : Nat) : Nat := min (p + k) xs.length
theorem plus_plus (xs : List Int) (p k j : Nat) : plus xs (plus xs p k) j = plus xs p (k + j) := by unfold plus; omega
theorem plus_le (xs : List Int) (p k : Nat) : plus xs p k ≤ xs.length := by unfold plus; omega
theorem xAt_plus (xs : List Int) (p k : Nat) : xAt xs (plus xs p k) = xAt xs (p + k) := by
  unfold xAt plus
  by_cases h : p + k ≤ xs.length
  · rw [Nat.min_eq_left h]
  · rw [Nat.min_eq_right (by omega), List.getElem?_eq_none (Nat.le_refl _), List.getElem?_eq_none (by omega)]
theorem xAt_oct {xs : List Int} (h : Octs xs) (p : Nat) : 0 ≤ xAt xs p ∧ xAt xs p ≤ 255 := by
  unfold xAt
  cases hx : xs[p]? with
  | none => simp
  | some u => exact h u (List.mem_of_getElem? hx)
theorem GAt.kept {w w' : World} {g : Nat} {v : Value} {xs : List Int} {p : Nat} {T : List Nat} (h : GAt w g v xs p) (k : Kept T w w') (hg : g ∉ T) (hb : xs ≠ [] → ∀ b, blkOf v = some b → b ∉ T) : GAt w' g v xs p :=
  ⟨k.heap h.box hg, h.bytes.keep k hb, h.oct, h.le, h.len, h.ne⟩
theorem GAt.put {w : World} {g : Nat} {v : Value} {xs : List Int} {p : Nat} (h : GAt w g v xs p) {q : Nat} (hq : q ≤ xs.length) : GAt (w.setCell ⟨g, 1, none⟩ (.int .i64 (q : Int))) g v xs q ∧ Kept [g] w (w.setCell ⟨g, 1, none⟩ (.int .i64 (q : Int))) := by
  have k : Kept [g] w (w.setCell ⟨g, 1, none⟩ (.int .i64 (q : Int))) := by
    rw [setCell_eq_setRow w g 1 _ _ _ _ h.box]
    exact ⟨rfl, rfl, rfl, by simp [World.setRow], fun k _ hn => setRow_other w g k _ (fun e => hn (by simp [e]))⟩
  refine ⟨⟨?_, h.bytes.keep k (fun hne b hb e => h.ne hne b hb (by simpa using e)), h.oct, hq, h.len, h.ne⟩, k⟩
  rw [setCell_eq_setRow w g 1 _ _ _ _ h.box, setRow_heap w g _ _ _ _ h.box]
  rfl

set_option maxRecDepth 100000 in
set_option maxHeartbeats 2000000 in
theorem one_any {w : World} {g : Nat} {v : Value} {xs : List Int} {p : Nat} (G : GAt w g v xs p) :
    Calls Tryd.prog 49 #[.pointer (some ⟨g, 0, none⟩)] w fun e w' => e = .returned (.int .i64 (xAt xs p)) ∧ GAt w' g v xs (plus xs p 1) ∧ Kept [g] w w' := by
  have hlen := G.len
  have hle := G.le
  obtain ⟨c0, c1⟩ : w.cell? ⟨g, 0, none⟩ = some v ∧ w.cell? ⟨g, 1, none⟩ = some (.int .i64 (p : Int)) := by
    refine ⟨?_, ?_⟩
    · rw [cell_of_row _ _ _ _ _ _ G.box]; rfl
    · rw [cell_of_row _ _ _ _ _ _ G.box]; rfl
  by_cases h : p < xs.length
  · have HP : Hid (∀ n : Nat, GAt ((w.drewN n).setCell ⟨g, 1, none⟩ (.int .i64 ((p + 1 : Nat) : Int))) g v xs (p + 1) ∧ Kept [g] w ((w.drewN n).setCell ⟨g, 1, none⟩ (.int .i64 ((p + 1 : Nat) : Int)))) := fun n => by
      have G2 := G.kept (T := []) ((Kept.refl [] w).drewN n) (by simp) (fun _ _ _ => by simp)
      obtain ⟨a, b⟩ := G2.put (q := p + 1) (by omega)
      exact ⟨a, Kept.then (S := [g]) ((Kept.refl [g] w).drewN n) b⟩
    have hpl : plus xs p 1 = p + 1 := by unfold plus; omega
    rw [hpl]
    obtain ⟨x, hx⟩ : ∃ x, xs[p]? = some x := ⟨_, List.getElem?_eq_getElem h⟩
    have hxx : xAt xs p = x := by unfold xAt; rw [hx]; rfl
    have hxo := xAt_oct G.oct p
    rw [hxx] at hxo ⊢
    have hfz : w.frozen? ⟨g, 1, none⟩ = false := frozen_of_row w g _ _ _ G.box
    obtain ⟨ao, cap, rfl, _, _, hcell⟩ := G.bytes
    obtain ⟨b, off, rfl, hh⟩ := hcell (by rintro rfl; simp at h)
    have hwx : IntKind.i64.wrap x = x := by rw [IntKind.wrap_i64]; omega
    have t1 : decide ((xs.length : Int) ≤ (p : Int)) = false := decide_eq_false (by omega)
    have hp1 : IntKind.i64.wrap ((p : Int) + 1) = ((p + 1 : Nat) : Int) := by rw [IntKind.wrap_i64]; omega
    have hp2 : IntKind.i64.wrap (((p + 1 : Nat) : Int) - 1) = (p : Int) := by rw [IntKind.wrap_i64]; omega
    have HX : Hid (xs[p]? = some x) := hx
    have HNE : Hid (b ≠ g) := G.ne (by rintro rfl; simp at h) b rfl
    clear G hcell hh hx
    go_enter Tryd.func49, Tryd.ntmps49
    go_wp2
    go_quiet (fail)
    go_wp2_with fail
    obtain ⟨G2, K2⟩ := HP.out nq
    rw [show ((p + 1 : Nat) : Int) = (p : Int) + 1 from rfl] at G2 K2
    generalize (w.drewN nq).setCell ⟨g, 1, none⟩ (.int .i64 ((p : Int) + 1)) = W at *
    have d0 : W.cell? ⟨g, 0, none⟩ = some (.slice (some ⟨b, off, none⟩) xs.length cap) := by rw [cell_of_row _ _ _ _ _ _ G2.box]; rfl
    have d1 : W.cell? ⟨g, 1, none⟩ = some (.int .i64 ((p : Int) + 1)) := by rw [cell_of_row _ _ _ _ _ _ G2.box]; rfl
    obtain ⟨ao', cap', he, _, _, hc⟩ := G2.bytes
    injection he with e1 e2 e3
    subst e1 e3
    obtain ⟨b', off', hbb, hh⟩ := hc (by rintro rfl; simp at h)
    obtain ⟨rfl, rfl⟩ : b = b' ∧ off = off' := by simpa using hbb
    have d2 := hh p x HX.out
    have HF : Hid (∀ n, GAt (W.drewN n) g (.slice (some ⟨b, off, none⟩) xs.length cap) xs (p + 1) ∧ Kept [g] w (W.drewN n)) := fun n => ⟨G2.kept (T := []) ((Kept.refl [] W).drewN n) (by simp) (fun _ _ _ => by simp), K2.drewN n⟩
    have hp3 : IntKind.i64.wrap ((p : Int) + 1 - 1) = (p : Int) := by rw [IntKind.wrap_i64]; omega
    have hp4 : IntKind.i64.wrap (p : Int) = (p : Int) := by rw [IntKind.wrap_i64]; omega
    clear G2 K2 hh hc hbb HP HNE hp1 hp2 c0 c1 hfz
    go_quiet (fail)
    go_wp2
    go_ret
    exact ⟨rfl, (HF.out _).1, (HF.out _).2⟩
  · have hpl : plus xs p 1 = p := by unfold plus; omega
    have hx0 : xAt xs p = 0 := by unfold xAt; rw [List.getElem?_eq_none (by omega)]; rfl
    rw [hpl, hx0]
    have t1 : decide ((xs.length : Int) ≤ (p : Int)) = true := decide_eq_true (by omega)
    have HG : Hid (∀ n, GAt (w.drewN n) g v xs p) := fun n => G.kept (T := []) ((Kept.refl [] w).drewN n) (by simp) (fun _ _ _ => by simp)
    obtain ⟨ao, cap, rfl, _⟩ := G.bytes
    clear G
    go_enter Tryd.func49, Tryd.ntmps49
    go_wp2
    go_quiet (fail)
    go_wp2
    go_ret
    exact ⟨rfl, HG.out _, (Kept.refl _ _).drewN _⟩

/-- So many bytes from a place on; what is missing is 0. -/
def takeX (xs : List Int) (p k : Nat) : List Int := (List.range k).map fun i => xAt xs (p + i)
theorem takeX_len (xs : List Int) (p k : Nat) : (takeX xs p k).length = k := by simp [takeX]
theorem takeX_succ (xs : List Int) (p k : Nat) : takeX xs p (k + 1) = takeX xs p k ++ [xAt xs (p + k)] := by simp [takeX, List.range_succ]
theorem takeX_octs {xs : List Int} (h : Octs xs) (p k : Nat) : Octs (takeX xs p k) := fun u hu => by
  obtain ⟨i, _, rfl⟩ := List.mem_map.1 hu
  exact xAt_oct h _

set_option maxRecDepth 100000 in
set_option maxHeartbeats 2000000 in
theorem gtime_any {w : World} {g : Nat} {v : Value} {xs : List Int} {p : Nat} (G : GAt w g v xs p) :
    Calls Tryd.prog 53 #[.pointer (some ⟨g, 0, none⟩)] w fun e w' => e = .returned (.int .u64 (be (takeX xs p 8))) ∧ GAt w' g v xs (plus xs p 8) ∧ Kept [g] w w' := by
  have HO : Hid (Octs xs) := G.oct
  have HG : Hid (GAt w g v xs p) := G
  clear G
  go_enter Tryd.func53, Tryd.ntmps53
  go_wp2
  go_loopw [3, 4] (fun s3 s4 wr => ∃ (k : Nat) (n : Int), k ≤ 8 ∧ s4 = .int .i64 k ∧ s3 = .int .u64 n ∧ Hid (n = be (takeX xs p k)) ∧ Hid (GAt wr g v xs (plus xs p k)) ∧ Hid (Kept [g] w wr)) (fun _ s4 _ => 8 - (intOf s4).toNat)
  case atStart => exact ⟨0, 0, by omega, rfl, rfl, rfl, by rw [show plus xs p 0 = p by have := HG.out.le; unfold plus; omega]; exact HG, Kept.refl _ _⟩
  case round =>
    obtain ⟨k, n, hk, rfl, rfl, HN, HGk, HK⟩ := hrel
    by_cases hlt : k < 8
    · have t1 : decide ((k : Int) < 8) = true := decide_eq_true (by omega)
      have h1 := one_any HGk.out
      rw [plus_plus, xAt_plus] at h1
      have hxo := xAt_oct HO.out (p + k)
      have hnb : 0 ≤ n ∧ n < 72057594037927936 := by
        rw [HN.out]
        exact be_le8 _ (takeX_octs HO.out p k) (by rw [takeX_len]; omega)
      have HN' : Hid (n * 256 + xAt xs (p + k) = be (takeX xs p (k + 1))) := by
        show _ = _
        rw [takeX_succ, HN.out, be_snoc]
      clear HN HGk
      generalize xAt xs (p + k) = x at *
      have hw1 : IntKind.u64.wrap (n * 256) = n * 256 := by rw [IntKind.wrap_u64]; omega
      have hw2 : IntKind.u64.wrap (n * 256 + x) = n * 256 + x := by rw [IntKind.wrap_u64]; omega
      have hw3 : IntKind.u64.wrap x = x := by rw [IntKind.wrap_u64]; omega
      go_wp2_with (go_at_call 49; refine h1.mono ?_; rintro e w1 ⟨rfl, g1, k1⟩; have HG1 : Hid (GAt w1 g v xs (plus xs p (k + 1))) := g1; have HK1 : Hid (Kept [g] w w1) := Kept.trans HK.out k1 (fun x hx => Or.inl hx); clear g1 k1)
      go_roundw
      case rel => exact ⟨k + 1, n * 256 + x, by omega, by go_num, by go_num, HN', HG1, HK1⟩
      case measure => simp [intOf]; omega
    · have t1 : decide ((k : Int) < 8) = false := decide_eq_false (by omega)
      have HE : Hid (k = 8) := by show k = 8; omega
      go_wp2
      go_ret
      have e := HE.out
      subst e
      exact ⟨by have h := HN.out; subst h; rfl, HGk.out, HK.out⟩

/-- Guess.id between its rounds. -/
structure GId (w W : World) (g : Nat) (v : Value) (xs : List Int) (p k : Nat) : Prop where
  res : W.heap[w.heap.size]? = some (.cells (idC zero32) 25 (0, 0))
  arr : W.heap[w.heap.size + 1]? = some (.cells (idC (takeX xs p k ++ List.replicate (32 - k) 0)) 25 (0, 0))
  gat : GAt W g v xs (plus xs p k)
  kp : Kept [g] w W
  lt : g < w.heap.size
theorem GId.start {w : World} {g : Nat} {v : Value} {xs : List Int} {p : Nat} (G : GAt w g v xs p) : GId w ((w.alloc (.cells (idC zero32) 25)).alloc (.cells (idC zero32) 25)) g v xs p 0 := by
  have hk : Kept [] w ((w.alloc (.cells (idC zero32) 25)).alloc (.cells (idC zero32) 25)) := ((Kept.refl _ _).alloc _).alloc _
  refine ⟨(Below.heap_alloc _ _ _ (by rw [World.size_alloc]; omega)).trans (heap_alloc_new w _), ?_, ?_, ((Kept.refl [g] w).alloc _).alloc _, ?_⟩
  · have h := heap_alloc_new (w.alloc (.cells (idC zero32) 25)) (.cells (idC zero32) 25)
    rw [World.size_alloc] at h
    exact h
  · have := G.kept hk (by simp) (fun _ _ _ => by simp)
    rw [show plus xs p 0 = p by have := G.le; unfold plus; omega]
    exact this
  · exact (Array.getElem?_eq_some_iff.1 G.box).1
theorem GId.next {w W W1 : World} {g : Nat} {v : Value} {xs : List Int} {p k : Nat} (h : GId w W g v xs p k) (k1 : Kept [g] W W1) (g1 : GAt W1 g v xs (plus xs p (k + 1))) (hk : k < 32) (hv : xs ≠ [] → ∀ b, blkOf v = some b → b < w.heap.size) : GId w (W1.setCell ⟨w.heap.size + 1, k, none⟩ (.int .u8 (xAt xs (p + k)))) g v xs p (k + 1) := by
  have hlt := h.lt
  have harr : W1.heap[w.heap.size + 1]? = some (.cells (idC (takeX xs p k ++ List.replicate (32 - k) 0)) 25 (0, 0)) := k1.heap h.arr (by simp; omega)
  have e := setCell_eq_setRow W1 _ k _ _ _ (.int .u8 (xAt xs (p + k))) harr
  have hK : Kept [w.heap.size + 1] W1 (W1.setCell ⟨w.heap.size + 1, k, none⟩ (.int .u8 (xAt xs (p + k)))) := by
    rw [e]
    exact ⟨rfl, rfl, rfl, by simp [World.setRow], fun j _ hn => setRow_other W1 _ j _ (fun e => hn (by simp [e]))⟩
  refine ⟨hK.heap (k1.heap h.res (by simp; omega)) (by simp), ?_, g1.kept hK (by simp; omega) (fun hne b hb e => ?_), (h.kp.trans k1 (fun x hx => Or.inl hx)).trans hK (fun x hx => ?_), hlt⟩
  · rw [e, setRow_heap W1 _ _ _ _ _ harr]
    congr 2
    unfold idC
    rw [takeX_succ]
    obtain ⟨m, hm⟩ : ∃ m, 32 - k = m + 1 := ⟨31 - k, by omega⟩
    rw [show 32 - (k + 1) = m by omega, hm, List.replicate_succ]
    simp only [List.map_append, List.map_cons, List.append_assoc, List.singleton_append, List.setIfInBounds_toArray]
    rw [List.set_append_right _ _ (by rw [List.length_map, takeX_len]; exact Nat.le_refl _), List.length_map, takeX_len, Nat.sub_self, List.set_cons_zero]
  · have := hv hne b hb
    simp at e
    omega
  · simp at hx
    exact Or.inr (by omega)

set_option maxRecDepth 100000 in
set_option maxHeartbeats 2000000 in
theorem gid_any {w : World} {g : Nat} {v : Value} {xs : List Int} {p : Nat} (G : GAt w g v xs p) :
    Calls Tryd.prog 52 #[.pointer (some ⟨g, 0, none⟩)] w fun e w' => e = .returned (.agg (idC (takeX xs p 32))) ∧ GAt w' g v xs (plus xs p 32) ∧ Kept [g] w w' := by
  have HO : Hid (Octs xs) := G.oct
  have HS := GId.start G
  have HV : Hid (xs ≠ [] → ∀ b, blkOf v = some b → b < w.heap.size) := fun hne b hb => by
    obtain ⟨ao, cap, rfl, _, _, hc⟩ := G.bytes
    obtain ⟨b', off, rfl, hh⟩ := hc hne
    obtain rfl : b' = b := by simpa [blkOf] using hb
    obtain ⟨x, r, rfl⟩ : ∃ x r, xs = x :: r := by cases xs with | nil => exact absurd rfl hne | cons x r => exact ⟨x, r, rfl⟩
    exact World.block_lt_of_cell? w _ (hh 0 x rfl)
  have HSt : Hid (GId w ((w.alloc (.cells (idC zero32) 25)).alloc (.cells (idC zero32) 25)) g v xs p 0) := HS
  clear G HS
  have hui := Tryd.underlying25
  have h32 : (Tryd.prog.info? 25).map (·.size) = some (idC (takeX xs p 32)).size := by rw [idC_size (takeX_len _ _ _)]; exact Tryd.infoID
  have hz32 : (idC zero32).size = (idC (takeX xs p 32)).size := by rw [idC_size (takeX_len _ _ _)]; rfl
  have hone : (idC (takeX xs p 32)).all (·.oneCell') = true := all_oneCell_toArray (map_oneCell _)
  go_enter Tryd.func52, Tryd.ntmps52
  go_wp2
  go_loopw [4] (fun s4 wr => ∃ k : Nat, k ≤ 32 ∧ s4 = .int .i64 k ∧ Hid (GId w wr g v xs p k)) (fun s4 _ => 32 - (intOf s4).toNat)
  case atStart => exact ⟨0, by omega, rfl, HSt⟩
  case round =>
    clear HSt
    obtain ⟨k, hk, rfl, HG⟩ := hrel
    by_cases hlt : k < 32
    · have t1 : decide ((k : Int) < 32) = true := decide_eq_true (by omega)
      have h1 := one_any HG.out.gat
      rw [plus_plus, xAt_plus] at h1
      have hxo := xAt_oct HO.out (p + k)
      have HNx : Hid (∀ W1, Kept [g] wr W1 → GAt W1 g v xs (plus xs p (k + 1)) → GId w (W1.setCell ⟨w.heap.size + 1, k, none⟩ (.int .u8 (xAt xs (p + k)))) g v xs p (k + 1) ∧ W1.frozen? ⟨w.heap.size + 1, k, none⟩ = false ∧ ∃ c, W1.cell? ⟨w.heap.size + 1, k, none⟩ = some c) := fun W1 k1 g1 => by
        have harr := k1.heap HG.out.arr (by have := HG.out.lt; simp; omega)
        refine ⟨HG.out.next k1 g1 hlt HV.out, frozen_of_row W1 _ _ _ _ harr, ?_⟩
        rw [cell_of_row _ _ _ _ _ _ harr]
        exact ⟨_, Array.getElem?_eq_getElem (by rw [idC_size (by rw [List.length_append, takeX_len, List.length_replicate]; omega)]; exact hlt)⟩
      generalize xAt xs (p + k) = x at *
      have hx1 : x % 256 = x := by omega
      have i0 : (0 : Int) ≤ (k : Int) := by omega
      have i1 : (k : Int) < 32 := by omega
      go_wp2_with (go_at_call 49; refine h1.mono ?_; rintro e w1 ⟨rfl, g1, k1⟩; obtain ⟨n1, n2, c3, n3⟩ := HNx.out w1 k1 g1; have HN1 : Hid (GId w (w1.setCell ⟨w.heap.size + 1, k, none⟩ (.int .u8 x)) g v xs p (k + 1)) := n1; clear n1 g1 k1)
      go_roundw
      case rel => exact ⟨k + 1, by omega, by go_num, HN1⟩
      case measure => simp [intOf]; omega
    · have t1 : decide ((k : Int) < 32) = false := decide_eq_false (by omega)
      obtain ⟨r1, r2, r3, r4, r5⟩ := HG.out
      have e : k = 32 := by omega
      rw [e, show 32 - 32 = 0 from rfl, List.replicate_zero, List.append_nil] at r2
      rw [e] at r3
      have HR1 : Hid (wr.heap[w.heap.size]? = some (.cells (idC zero32) 25 (0, 0))) := r1
      have HR2 : Hid (wr.heap[w.heap.size + 1]? = some (.cells (idC (takeX xs p 32)) 25 (0, 0))) := r2
      have HFin : Hid (GAt (wr.setRow w.heap.size (idC (takeX xs p 32))) g v xs (plus xs p 32) ∧ Kept [g] w (wr.setRow w.heap.size (idC (takeX xs p 32)))) := by
        have hK : Kept [w.heap.size] wr (wr.setRow w.heap.size (idC (takeX xs p 32))) := ⟨rfl, rfl, rfl, by simp [World.setRow], fun j _ hn => setRow_other wr _ j _ (fun e => hn (by simp [e]))⟩
        refine ⟨r3.kept hK (by simp; omega) (fun hne b hb e => ?_), r4.trans hK (fun x hx => Or.inr (by simp at hx; omega))⟩
        have := HV.out hne b hb
        simp at e
        omega
      clear r1 r2 r3 r4 HG e
      generalize hY : idC (takeX xs p 32) = Y at *
      have HY : Hid (idC (takeX xs p 32) = Y) := hY
      clear hY
      generalize hZ : idC zero32 = Z at *
      clear hZ
      go_wp2_with (first
        | (refine wpList_load_row (by rfl) 25 (.tmp 3) (by rfl) (w.heap.size + 1) (by rfl) 25 Y (0, 0) _ HR2.out hui rfl h32 ?_)
        | (refine wpList_store_row (by rfl) 25 (.tmp 2) (.tmp 14) (by rfl) w.heap.size Y (by rfl) (by rfl) 25 _ HR1.out h32 hz32 hone ?_))
      refine bodyPost_ret (v := .agg Y) ?_ rfl ⟨by first | rfl | rw [HY.out], HFin.out⟩
      rw [results_cell1 rfl]
      exact run_loadVar_row (P := Tryd.prog) _ w.heap.size 25 25 Y (0, 0) _ (setRow_heap _ _ _ _ _ _ HR1.out) hui rfl h32
end Go.Proofs.YtnfbiemmdaenpaaDoor
