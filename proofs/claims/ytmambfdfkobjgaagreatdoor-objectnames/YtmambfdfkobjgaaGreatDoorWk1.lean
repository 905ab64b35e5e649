/-
  A commit, a tag encoded; its encoding read.
  WALK: satchellaw3.wakes.
-/
import Derived.Test.YtmambfdfkobjgaaGreatDoorSame0
import Derived.Test.YtmambfdfkobjgaaGreatDoorEncTag
import Derived.Test.YtmambfdfkobjgaaGreatDoorReadC
import Derived.Test.YtmambfdfkobjgaaGreatDoorReadG
import Derived.Test.YtmambfdfkobjgaaGreatDoorRt1
import Derived.Test.YtmambfdfkobjgaaGreatDoorPar0
namespace Go.Proofs.YtmambfdfkobjgaaGreatDoor
open Go.RowKit

theorem ids_below {w : World} {v : Value} {ids : List (List Int)} (h : IdsAt w v ids) (hg : ∀ o, o ∈ ids → o.length = 32) (hne : ids ≠ []) : ∀ b, blkOf v = some b → b < w.heap.size := fun b hb => by
  obtain ⟨ao, cap, rfl, _, _, _, hc⟩ := h
  obtain ⟨b', off, rfl, hh⟩ := hc hne
  obtain rfl : b' = b := by simpa [blkOf] using hb
  obtain ⟨x, r, rfl⟩ : ∃ x r, ids = x :: r := by cases ids with | nil => exact absurd rfl hne | cons x r => exact ⟨x, r, rfl⟩
  have hx := hg x (by simp)
  obtain ⟨u, hu⟩ : ∃ u, (x.map (Value.int .u8))[0]? = some u := ⟨_, List.getElem?_eq_getElem (by rw [List.length_map]; omega)⟩
  exact World.block_lt_of_cell? w _ (hh 0 x rfl 0 u hu)
theorem WAt.above {w : World} {wb B : Nat} {zs : List Int} {S : List Nat} (h : WAt w wb B zs S) : ∀ b, b ∈ S → B ≤ b := fun b hb => by
  obtain ⟨ao, cap, _, hown, rfl, _, _, hB⟩ := h
  rcases List.mem_cons.1 hb with rfl | hb
  · exact hB
  · exact (World.ownsRow.lt hown b (by simpa using hb)).1
theorem encodeC (c : ComL) (pv : Value) (w : World) (hT : Tabs w) (hp : IdsAt w pv c.parents) (hg : c.Good) (hlen : (encC c).length ≤ 100000000) (hz : c.who.length + c.text.length ≤ 100000000) :
    Calls Tryz.prog 7 #[.agg (comO c pv).row.toArray] w (EncP w (faultC c) (encC c)) := by
  refine encodeCom (comO c pv) w rfl hg.tree.1 rfl (faultC c) (encC c) hlen ?_ ?_
  · exact fun W hW => comFault_any c pv W (hT.kept hW) (hp.keep hW (fun _ _ _ => by simp)) hg
  · intro hf W wb S hW h
    have h8 : c.parents.length ≤ 8 := by
      unfold faultC at hf
      split at hf
      · exact absurd hf (by decide)
      · omega
    refine comWrite_any c pv h hW.size (hp.keep hW (fun _ _ _ => by simp)) (fun hne b hb hS => ?_) hg h8 (by simpa using hz)
    have := ids_below hp (fun o ho => (hg.parents o ho).1) hne b hb
    have := h.above b hS
    omega
theorem encodeT (t : TagL) (w : World) (hT : Tabs w) (hg : t.Good) (hlen : (encG t).length ≤ 100000000) (hz : t.name.length + t.who.length + t.text.length ≤ 100000000) :
    Calls Tryz.prog 7 #[.agg (tagO t).row.toArray] w (EncP w (faultG t) (encG t)) := by
  refine encodeTag (tagO t) w rfl rfl hg.target.1 (faultG t) (encG t) hlen ?_ ?_
  · exact fun W hW => tagFault_any t W (hT.kept hW) hg
  · intro hf W wb S hW h
    have hk : 0 ≤ t.kind ∧ t.kind ≤ 255 := by
      unfold faultG at hf
      split at hf
      · exact absurd hf (by decide)
      · rename_i hm
        simp only [Bool.not_eq_false, modeB, Bool.and_eq_true, decide_eq_true_eq] at hm
        omega
    exact tagWrite_any t h hW.size hg hk.1 hk.2 (by simpa using hz)
theorem readC (c : ComL) (v : Value) (w : World) (hT : Tabs w) (hv : BytesAt w v (encC c)) (ho : Octs (encC c)) (hl : (encC c).length ≤ 65536) (hfit : c.Fit) (hf : faultC c = 0) :
    Calls Tryz.prog 28 #[v] w fun e w' => Kept [] w w' ∧ ∃ b, e = .returned (.tuple #[.iface 90 (.agg (c.row (.slice (some ⟨b, 0, none⟩) c.parents.length c.parents.length)).toArray), .int .i64 0]) ∧ RowsIn w' b 31 (c.parents.map idRow) ∧ w.heap.size ≤ b := by
  obtain ⟨y1, y2, y3, y4, y5, p, h0, h1, h2, hn, hs, h3, h4, h5, hc, hq, hpl⟩ := com_back c hfit
  refine (readCom v (encC c) w hv ho hl hT ⟨3, [], 1, 0⟩ h0.symm rfl y1 y2 y3 y4 y5 c.parents.length c.parents p 0 h1 h2 hn hs h3 h4 h5 c hc (by omega) (by omega)).mono ?_
  rintro e w' ⟨hk, hok, _⟩
  exact ⟨hk, hok ⟨hq, hpl, hf⟩⟩
theorem readT (t : TagL) (v : Value) (w : World) (hT : Tabs w) (hv : BytesAt w v (encG t)) (ho : Octs (encG t)) (hl : (encG t).length ≤ 65536) (hfit : t.Fit) (hf : faultG t = 0) :
    Calls Tryz.prog 28 #[v] w fun e w' => Kept [] w w' ∧ e = .returned (.tuple #[.iface 91 (.agg t.row.toArray), .int .i64 0]) := by
  obtain ⟨y1, y2, y3, y4, y5, y6, h0, h1, h2, h3, h4, h5, h6, ht, hq, hpl⟩ := tag_back t hfit
  refine (readTag v (encG t) w hv ho hl hT ⟨4, [], 1, 0⟩ h0.symm rfl y1 y2 y3 y4 y5 y6 h1 h2 h3 h4 h5 h6 t ht (by omega) (by omega)).mono ?_
  rintro e w' ⟨hk, hok, _⟩
  exact ⟨hk, hok ⟨hq, hpl, hf⟩⟩
end Go.Proofs.YtmambfdfkobjgaaGreatDoor

namespace Go.Proofs.YtmambfdfkobjgaaGreatDoor
open Go.RowKit

def wid (n : Int) : List Int := n :: List.replicate 31 0
def wC : ComL := ⟨List.replicate 32 0, [wid 1, wid 2], [109, 101], 5, [120]⟩
def wT : TagL := ⟨wid 3, 1, [110], [], 0, []⟩
theorem wC_fault : faultC wC = 0 := by kernel_rfl
theorem wT_fault : faultG wT = 0 := by kernel_rfl
theorem wC_len : (encC wC).length = 111 := by kernel_rfl
theorem wT_len : (encG wT).length = 46 := by kernel_rfl
theorem wid_good (n : Int) (h0 : 0 ≤ n) (h1 : n ≤ 255) : GoodID (wid n) := ⟨rfl, fun u hu => by
  rcases List.mem_cons.1 hu with rfl | hu
  · omega
  · have := List.eq_of_mem_replicate hu
    omega⟩
theorem wC_good : wC.Good := by
  refine ⟨⟨rfl, fun u hu => by have := List.eq_of_mem_replicate hu; omega⟩, fun o ho => ?_, ⟨fun u hu => by simp [wC] at hu; omega, by decide⟩, by decide, by decide, ⟨fun u hu => by simp [wC] at hu; omega, by decide⟩⟩
  have h : o = wid 1 ∨ o = wid 2 := by simpa [wC] using ho
  rcases h with rfl | rfl
  · exact wid_good 1 (by decide) (by decide)
  · exact wid_good 2 (by decide) (by decide)
theorem wT_good : wT.Good := ⟨wid_good 3 (by decide) (by decide), by decide, by decide, ⟨fun u hu => by simp [wT] at hu; omega, by decide⟩, ⟨fun u hu => by simp [wT] at hu, by decide⟩, by decide, by decide, ⟨fun u hu => by simp [wT] at hu, by decide⟩⟩
theorem wC_fit : wC.Fit := ⟨rfl, fun o ho => (wC_good.parents o ho).1, by decide, by decide, by decide, by decide, by decide⟩
theorem wT_fit : wT.Fit := ⟨rfl, by decide, by decide, by decide, by decide, by decide, by decide, by decide⟩
theorem octs_app {xs ys : List Int} (h1 : Octs xs) (h2 : Octs ys) : Octs (xs ++ ys) := fun u hu => (List.mem_append.1 hu).elim (h1 u) (h2 u)
theorem wC_octs : Octs (encC wC) := by
  have : (encC wC).all (fun u => decide (0 ≤ u ∧ u ≤ 255)) = true := by kernel_rfl
  intro u hu
  have := List.all_eq_true.1 this u hu
  simpa using this
theorem wT_octs : Octs (encG wT) := by
  have : (encG wT).all (fun u => decide (0 ≤ u ∧ u ≤ 255)) = true := by kernel_rfl
  intro u hu
  have := List.all_eq_true.1 this u hu
  simpa using this
theorem wpList_built {ops : Array Oper} {rest : List Oper} {o : Oper} {a : Act} {w : World} {Q : Exit → Act → World → Prop} (hg : o.guard = none) (t : TypeId) (parts : Array (Nat × Operand)) (ho : o.op = .build t parts) (A : Array Value)
    (hb : Tryz.prog.built t (parts.map fun (i, x) => (i, a.eval x)).toList = some A) (h : wpList Tryz.prog ops Q rest (a.put o.dst (.agg A)) w) : wpList Tryz.prog ops Q (o :: rest) a w :=
  wpList_build hg t parts ho (by rw [hb]; rfl) (by rw [hb]; exact h)
theorem ids_of_rows {w : World} {b : Nat} {t : TypeId} {ids : List (List Int)} (h : RowsIn w b t (ids.map idRow)) (hl : ∀ o, o ∈ ids → o.length = 32) (hn : ids.length ≤ 140737488351232) : IdsAt w (.slice (some ⟨b, 0, none⟩) ids.length ids.length) ids :=
  ⟨_, _, rfl, Nat.le_refl _, fun e => (by cases e), hn, fun _ => ⟨b, 0, rfl, fun i xs hi => by
    have := h.range 32 (by decide) (fun r hr => by obtain ⟨o, ho, rfl⟩ := List.mem_map.1 hr; rw [idRow, List.length_map]; exact hl o ho) i (idRow xs) (by rw [List.getElem?_map, hi]; rfl)
    rw [Nat.zero_add]
    exact this⟩⟩
theorem bytes_row1 {w : World} {q : Nat} {ys : List Int} (h : w.heap[q]? = some (.cells (ys.map (Value.int .u8)).toArray 5 (0, 0))) : BytesAt w (.slice (some ⟨q, 0, none⟩) ys.length ys.length) ys :=
  ⟨_, _, rfl, Nat.le_refl _, fun e => (by cases e), fun _ => ⟨q, 0, rfl, fun i u hi => by
    rw [Nat.zero_add, cell_of_row _ _ _ _ _ _ h]
    simp [hi]⟩⟩
/-- What wakes calls, one by one. -/
theorem wEncC (pv : Value) (w : World) (hT : Tabs w) (hp : IdsAt w pv wC.parents) :
    Calls Tryz.prog 7 #[.agg (comO wC pv).row.toArray] w fun e w' => ∃ b, e = .returned (.tuple #[.slice (some ⟨b, 0, none⟩) 111 111, .int .i64 0]) ∧ BytesAt w' (.slice (some ⟨b, 0, none⟩) 111 111) (encC wC) ∧ Kept [] w w' := by
  refine (encodeC wC pv w hT hp wC_good (by rw [wC_len]; decide) (by decide)).mono ?_
  rintro e w' ⟨hk, _, _, h⟩
  obtain ⟨b, he, hb, _⟩ := h wC_fault (by rw [wC_len]; decide)
  have hB := bytes_row1 hb
  rw [wC_len] at he hB
  exact ⟨b, he, hB, hk⟩
theorem wEncT (w : World) (hT : Tabs w) :
    Calls Tryz.prog 7 #[.agg (tagO wT).row.toArray] w fun e w' => ∃ b, e = .returned (.tuple #[.slice (some ⟨b, 0, none⟩) 46 46, .int .i64 0]) ∧ BytesAt w' (.slice (some ⟨b, 0, none⟩) 46 46) (encG wT) ∧ Kept [] w w' := by
  refine (encodeT wT w hT wT_good (by rw [wT_len]; decide) (by decide)).mono ?_
  rintro e w' ⟨hk, _, _, h⟩
  obtain ⟨b, he, hb, _⟩ := h wT_fault (by rw [wT_len]; decide)
  have hB := bytes_row1 hb
  rw [wT_len] at he hB
  exact ⟨b, he, hB, hk⟩
theorem slice_form {w : World} {v : Value} {xs : List Int} (h : BytesAt w v xs) : ∃ ao n c, v = .slice ao n c := by
  obtain ⟨ao, c, rfl, _⟩ := h
  exact ⟨_, _, _, rfl⟩
theorem wParse (v : Value) (w : World) (hT : Tabs w) (hv : BytesAt w v (encC wC)) :
    Calls Tryz.prog 8 #[v] w fun e w' => Kept [] w w' ∧ ∃ b, e = .returned (.tuple #[.agg (comO wC (.slice (some ⟨b, 0, none⟩) 2 2)).row.toArray, .int .i64 0]) ∧ IdsAt w' (.slice (some ⟨b, 0, none⟩) 2 2) wC.parents := by
  refine (parseCom v w wC 2 (slice_form hv) rfl (fun W hW => readC wC v W (hT.kept hW) (hv.kept hW (fun _ _ => by simp)) wC_octs (by rw [wC_len]; decide) wC_fit wC_fault)).mono ?_
  rintro e w' ⟨hk, b, he, hr, _⟩
  exact ⟨hk, b, he, ids_of_rows hr (fun o ho => (wC_good.parents o ho).1) (by decide)⟩
theorem wChil (v : Value) (w : World) (hT : Tabs w) (hv : BytesAt w v (encG wT)) :
    Calls Tryz.prog 9 #[v] w fun e w' => Kept [] w w' ∧ ∃ b, e = .returned (.tuple #[.slice (some ⟨b, 0, none⟩) 1 1, .int .i64 0]) ∧ w'.cell? ⟨b, 32, none⟩ = some (.int .i64 1) := by
  refine (childrenTag v w wT (slice_form hv) wT_good (readT wT v w hT hv wT_octs (by rw [wT_len]; decide) wT_fit wT_fault)).mono ?_
  rintro e w' ⟨hk, b, he, hr, _⟩
  refine ⟨hk, b, he, ?_⟩
  rw [cell_of_row _ _ _ _ _ _ hr]
  rfl
theorem wKind (v : Value) (w : World) (hT : Tabs w) (hv : BytesAt w v (encG wT)) :
    Calls Tryz.prog 12 #[v] w fun e w' => e = .returned (.int .i64 4) ∧ Kept [] w w' :=
  kind_ok v (encG wT) w hv wT_octs 4 (by kernel_rfl) _ (readT wT v w hT hv wT_octs (by rw [wT_len]; decide) wT_fit wT_fault)
theorem wName (w : World) (hT : Tabs w) : Calls Tryz.prog 11 #[.string { data := #[110] }] w fun e w' => e = .returned (.bool true) ∧ Kept [] w w' := by
  have h := Name_any [110] (fun u hu => by simp at hu; omega) w (by decide) hT
  rwa [show nameB [110] = true by kernel_rfl] at h
end Go.Proofs.YtmambfdfkobjgaaGreatDoor
