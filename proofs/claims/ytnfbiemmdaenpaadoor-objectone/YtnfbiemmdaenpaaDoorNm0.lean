/-
  A commit, a tag encoded; its encoding read.
  WALK: satchellaw3.wakes.
  A tree of one entry encoded, its children; a tag with a name encoded and parsed: what ObjectNamed calls.
-/
import Derived.Test.YtnfbiemmdaenpaaDoorSame0
import Derived.Test.YtnfbiemmdaenpaaDoorEncTag
import Derived.Test.YtnfbiemmdaenpaaDoorReadT
import Derived.Test.YtnfbiemmdaenpaaDoorPar0
import Derived.Test.YtnfbiemmdaenpaaDoorAgP
namespace Go.Proofs.YtnfbiemmdaenpaaDoor
open Go.RowKit

theorem ids_below {w : World} {v : Value} {ids : List (List Int)} (h : IdsAt w v ids) (hg : ∀ o, o ∈ ids → o.length = 32) (hne : ids ≠ []) : ∀ b, blkOf v = some b → b < w.heap.size := fun b hb => by
  obtain ⟨ao, cap, rfl, _, _, _, hc⟩ := h
  obtain ⟨b', off, rfl, hh⟩ := hc hne
  obtain rfl : b' = b := by simpa [blkOf] using hb
  obtain ⟨x, r, rfl⟩ : ∃ x r, ids = x :: r := by cases ids with | nil => exact absurd rfl hne | cons x r => exact ⟨x, r, rfl⟩
  have hx := hg x (by simp)
  obtain ⟨u, hu⟩ : ∃ u, (x.map (Value.int .u8))[0]? = some u := ⟨_, List.getElem?_eq_getElem (by rw [List.length_map]; omega)⟩
  exact World.block_lt_of_cell? w _ (hh 0 x rfl 0 u hu)
theorem WAt.above {w : World} {wb B : Nat} {zs : List Int} {S : List Nat} (h : WAt w wb B zs S) : ∀ b, b ∈ S → B ≤ b := fun b hb => by
  obtain ⟨ao, cap, _, hown, rfl, _, _, hB⟩ := h
  rcases List.mem_cons.1 hb with rfl | hb
  · exact hB
  · exact (World.ownsRow.lt hown b (by simpa using hb)).1
theorem encodeC (c : ComL) (pv : Value) (w : World) (hT : Tabs w) (hp : IdsAt w pv c.parents) (hg : c.Good) (hlen : (encC c).length ≤ 100000000) (hz : c.who.length + c.text.length ≤ 100000000) :
    Calls Tryd.prog 6 #[.agg (comO c pv).row.toArray] w (EncP w (faultC c) (encC c)) := by
  refine encodeCom (comO c pv) w rfl hg.tree.1 rfl (faultC c) (encC c) hlen ?_ ?_
  · exact fun W hW => comFault_any c pv W (hT.kept hW) (hp.keep hW (fun _ _ _ => by simp)) hg
  · intro hf W wb S hW h
    have h8 : c.parents.length ≤ 8 := by
      unfold faultC at hf
      split at hf
      · exact absurd hf (by decide)
      · omega
    refine comWrite_any c pv h hW.size (hp.keep hW (fun _ _ _ => by simp)) (fun hne b hb hS => ?_) hg h8 (by simpa using hz)
    have := ids_below hp (fun o ho => (hg.parents o ho).1) hne b hb
    have := h.above b hS
    omega
theorem encodeT (t : TagL) (w : World) (hT : Tabs w) (hg : t.Good) (hlen : (encG t).length ≤ 100000000) (hz : t.name.length + t.who.length + t.text.length ≤ 100000000) :
    Calls Tryd.prog 6 #[.agg (tagO t).row.toArray] w (EncP w (faultG t) (encG t)) := by
  refine encodeTag (tagO t) w rfl rfl hg.target.1 (faultG t) (encG t) hlen ?_ ?_
  · exact fun W hW => tagFault_any t W (hT.kept hW) hg
  · intro hf W wb S hW h
    have hk : 0 ≤ t.kind ∧ t.kind ≤ 255 := by
      unfold faultG at hf
      split at hf
      · exact absurd hf (by decide)
      · rename_i hm
        simp only [Bool.not_eq_false, modeB, Bool.and_eq_true, decide_eq_true_eq] at hm
        omega
    exact tagWrite_any t h hW.size hg hk.1 hk.2 (by simpa using hz)
theorem readC (c : ComL) (v : Value) (w : World) (hT : Tabs w) (hv : BytesAt w v (encC c)) (ho : Octs (encC c)) (hl : (encC c).length ≤ 65536) (hfit : c.Fit) (hf : faultC c = 0) :
    Calls Tryd.prog 26 #[v] w fun e w' => Kept [] w w' ∧ ∃ b, e = .returned (.tuple #[.iface 82 (.agg (c.row (.slice (some ⟨b, 0, none⟩) c.parents.length c.parents.length)).toArray), .int .i64 0]) ∧ RowsIn w' b 25 (c.parents.map idRow) ∧ w.heap.size ≤ b := by
  obtain ⟨y1, y2, y3, y4, y5, p, h0, h1, h2, hn, hs, h3, h4, h5, hc, hq, hpl⟩ := com_back c hfit
  refine (readCom v (encC c) w hv ho hl hT ⟨3, [], 1, 0⟩ h0.symm rfl y1 y2 y3 y4 y5 c.parents.length c.parents p 0 h1 h2 hn hs h3 h4 h5 c hc (by omega) (by omega)).mono ?_
  rintro e w' ⟨hk, hok, _⟩
  exact ⟨hk, hok ⟨hq, hpl, hf⟩⟩
theorem readT (t : TagL) (v : Value) (w : World) (hT : Tabs w) (hv : BytesAt w v (encG t)) (ho : Octs (encG t)) (hl : (encG t).length ≤ 65536) (hfit : t.Fit) (hf : faultG t = 0) :
    Calls Tryd.prog 26 #[v] w fun e w' => Kept [] w w' ∧ e = .returned (.tuple #[.iface 83 (.agg t.row.toArray), .int .i64 0]) := by
  obtain ⟨y1, y2, y3, y4, y5, y6, h0, h1, h2, h3, h4, h5, h6, ht, hq, hpl⟩ := tag_back t hfit
  refine (readTag v (encG t) w hv ho hl hT ⟨4, [], 1, 0⟩ h0.symm rfl y1 y2 y3 y4 y5 y6 h1 h2 h3 h4 h5 h6 t ht (by omega) (by omega)).mono ?_
  rintro e w' ⟨hk, hok, _⟩
  exact ⟨hk, hok ⟨hq, hpl, hf⟩⟩
end Go.Proofs.YtnfbiemmdaenpaaDoor

namespace Go.Proofs.YtnfbiemmdaenpaaDoor
open Go.RowKit

def wid (n : Int) : List Int := n :: List.replicate 31 0
def wakeC : ComL := ⟨List.replicate 32 0, [wid 1, wid 2], [109, 101], 5, [120]⟩
def wT : TagL := ⟨wid 3, 1, [110], [], 0, []⟩
theorem wC_fault : faultC wakeC = 0 := by kernel_rfl
theorem wT_fault : faultG wT = 0 := by kernel_rfl
theorem wC_len : (encC wakeC).length = 111 := by kernel_rfl
theorem wT_len : (encG wT).length = 46 := by kernel_rfl
theorem wid_good (n : Int) (h0 : 0 ≤ n) (h1 : n ≤ 255) : GoodID (wid n) := ⟨rfl, fun u hu => by
  rcases List.mem_cons.1 hu with rfl | hu
  · omega
  · have := List.eq_of_mem_replicate hu
    omega⟩
theorem wC_good : wakeC.Good := by
  refine ⟨⟨rfl, fun u hu => by have := List.eq_of_mem_replicate hu; omega⟩, fun o ho => ?_, ⟨fun u hu => by simp [wakeC] at hu; omega, by decide⟩, by decide, by decide, ⟨fun u hu => by simp [wakeC] at hu; omega, by decide⟩⟩
  have h : o = wid 1 ∨ o = wid 2 := by simpa [wakeC] using ho
  rcases h with rfl | rfl
  · exact wid_good 1 (by decide) (by decide)
  · exact wid_good 2 (by decide) (by decide)
theorem wT_good : wT.Good := ⟨wid_good 3 (by decide) (by decide), by decide, by decide, ⟨fun u hu => by simp [wT] at hu; omega, by decide⟩, ⟨fun u hu => by simp [wT] at hu, by decide⟩, by decide, by decide, ⟨fun u hu => by simp [wT] at hu, by decide⟩⟩
theorem wC_fit : wakeC.Fit := ⟨rfl, fun o ho => (wC_good.parents o ho).1, by decide, by decide, by decide, by decide, by decide⟩
theorem wT_fit : wT.Fit := ⟨rfl, by decide, by decide, by decide, by decide, by decide, by decide, by decide⟩
theorem octs_app {xs ys : List Int} (h1 : Octs xs) (h2 : Octs ys) : Octs (xs ++ ys) := fun u hu => (List.mem_append.1 hu).elim (h1 u) (h2 u)
theorem wC_octs : Octs (encC wakeC) := by
  have : (encC wakeC).all (fun u => decide (0 ≤ u ∧ u ≤ 255)) = true := by kernel_rfl
  intro u hu
  have := List.all_eq_true.1 this u hu
  simpa using this
theorem wT_octs : Octs (encG wT) := by
  have : (encG wT).all (fun u => decide (0 ≤ u ∧ u ≤ 255)) = true := by kernel_rfl
  intro u hu
  have := List.all_eq_true.1 this u hu
  simpa using this
theorem wpList_built {ops : Array Oper} {rest : List Oper} {o : Oper} {a : Act} {w : World} {Q : Exit → Act → World → Prop} (hg : o.guard = none) (t : TypeId) (parts : Array (Nat × Operand)) (ho : o.op = .build t parts) (A : Array Value)
    (hb : Tryd.prog.built t (parts.map fun (i, x) => (i, a.eval x)).toList = some A) (h : wpList Tryd.prog ops Q rest (a.put o.dst (.agg A)) w) : wpList Tryd.prog ops Q (o :: rest) a w :=
  wpList_build hg t parts ho (by rw [hb]; rfl) (by rw [hb]; exact h)
theorem ids_of_rows {w : World} {b : Nat} {t : TypeId} {ids : List (List Int)} (h : RowsIn w b t (ids.map idRow)) (hl : ∀ o, o ∈ ids → o.length = 32) (hn : ids.length ≤ 140737488351232) : IdsAt w (.slice (some ⟨b, 0, none⟩) ids.length ids.length) ids :=
  ⟨_, _, rfl, Nat.le_refl _, fun e => (by cases e), hn, fun _ => ⟨b, 0, rfl, fun i xs hi => by
    have := h.range 32 (by decide) (fun r hr => by obtain ⟨o, ho, rfl⟩ := List.mem_map.1 hr; rw [idRow, List.length_map]; exact hl o ho) i (idRow xs) (by rw [List.getElem?_map, hi]; rfl)
    rw [Nat.zero_add]
    exact this⟩⟩
theorem bytes_row1 {w : World} {q : Nat} {ys : List Int} (h : w.heap[q]? = some (.cells (ys.map (Value.int .u8)).toArray 5 (0, 0))) : BytesAt w (.slice (some ⟨q, 0, none⟩) ys.length ys.length) ys :=
  ⟨_, _, rfl, Nat.le_refl _, fun e => (by cases e), fun _ => ⟨q, 0, rfl, fun i u hi => by
    rw [Nat.zero_add, cell_of_row _ _ _ _ _ _ h]
    simp [hi]⟩⟩
/-- What wakes calls, one by one. -/
theorem wEncC (pv : Value) (w : World) (hT : Tabs w) (hp : IdsAt w pv wakeC.parents) :
    Calls Tryd.prog 6 #[.agg (comO wakeC pv).row.toArray] w fun e w' => ∃ b, e = .returned (.tuple #[.slice (some ⟨b, 0, none⟩) 111 111, .int .i64 0]) ∧ BytesAt w' (.slice (some ⟨b, 0, none⟩) 111 111) (encC wakeC) ∧ Kept [] w w' := by
  refine (encodeC wakeC pv w hT hp wC_good (by rw [wC_len]; decide) (by decide)).mono ?_
  rintro e w' ⟨hk, _, _, h⟩
  obtain ⟨b, he, hb, _⟩ := h wC_fault (by rw [wC_len]; decide)
  have hB := bytes_row1 hb
  rw [wC_len] at he hB
  exact ⟨b, he, hB, hk⟩
theorem wEncT (w : World) (hT : Tabs w) :
    Calls Tryd.prog 6 #[.agg (tagO wT).row.toArray] w fun e w' => ∃ b, e = .returned (.tuple #[.slice (some ⟨b, 0, none⟩) 46 46, .int .i64 0]) ∧ BytesAt w' (.slice (some ⟨b, 0, none⟩) 46 46) (encG wT) ∧ Kept [] w w' := by
  refine (encodeT wT w hT wT_good (by rw [wT_len]; decide) (by decide)).mono ?_
  rintro e w' ⟨hk, _, _, h⟩
  obtain ⟨b, he, hb, _⟩ := h wT_fault (by rw [wT_len]; decide)
  have hB := bytes_row1 hb
  rw [wT_len] at he hB
  exact ⟨b, he, hB, hk⟩
theorem slice_form {w : World} {v : Value} {xs : List Int} (h : BytesAt w v xs) : ∃ ao n c, v = .slice ao n c := by
  obtain ⟨ao, c, rfl, _⟩ := h
  exact ⟨_, _, _, rfl⟩
theorem wParse (v : Value) (w : World) (hT : Tabs w) (hv : BytesAt w v (encC wakeC)) :
    Calls Tryd.prog 9 #[v] w fun e w' => Kept [] w w' ∧ ∃ b, e = .returned (.tuple #[.agg (comO wakeC (.slice (some ⟨b, 0, none⟩) 2 2)).row.toArray, .int .i64 0]) ∧ IdsAt w' (.slice (some ⟨b, 0, none⟩) 2 2) wakeC.parents := by
  refine (parseCom v w wakeC 2 (slice_form hv) rfl (fun W hW => readC wakeC v W (hT.kept hW) (hv.kept hW (fun _ _ => by simp)) wC_octs (by rw [wC_len]; decide) wC_fit wC_fault)).mono ?_
  rintro e w' ⟨hk, b, he, hr, _⟩
  exact ⟨hk, b, he, ids_of_rows hr (fun o ho => (wC_good.parents o ho).1) (by decide)⟩
theorem wChil (v : Value) (w : World) (hT : Tabs w) (hv : BytesAt w v (encG wT)) :
    Calls Tryd.prog 16 #[v] w fun e w' => Kept [] w w' ∧ ∃ b, e = .returned (.tuple #[.slice (some ⟨b, 0, none⟩) 1 1, .int .i64 0]) ∧ w'.cell? ⟨b, 32, none⟩ = some (.int .i64 1) := by
  refine (childrenTag v w wT (slice_form hv) wT_good (readT wT v w hT hv wT_octs (by rw [wT_len]; decide) wT_fit wT_fault)).mono ?_
  rintro e w' ⟨hk, b, he, hr, _⟩
  refine ⟨hk, b, he, ?_⟩
  rw [cell_of_row _ _ _ _ _ _ hr]
  rfl
theorem wKind (v : Value) (w : World) (hT : Tabs w) (hv : BytesAt w v (encG wT)) :
    Calls Tryd.prog 18 #[v] w fun e w' => e = .returned (.int .i64 4) ∧ Kept [] w w' :=
  kind_ok v (encG wT) w hv wT_octs 4 (by kernel_rfl) _ (readT wT v w hT hv wT_octs (by rw [wT_len]; decide) wT_fit wT_fault)
theorem wName (w : World) (hT : Tabs w) : Calls Tryd.prog 17 #[.string { data := #[110] }] w fun e w' => e = .returned (.bool true) ∧ Kept [] w w' := by
  have h := Name_any [110] (fun u hu => by simp at hu; omega) w (by decide) hT
  rwa [show nameB [110] = true by kernel_rfl] at h
end Go.Proofs.YtnfbiemmdaenpaaDoor

namespace Go.Proofs.YtnfbiemmdaenpaaDoor
open Go.RowKit

def nId (m : Int) : List Int := m :: 7 :: List.replicate 30 0
def nE (m : Int) (xs : List Int) : EntL := ⟨m, xs, nId m⟩
def treO (ev : Value) (es : List EntL) : ObjL := { zeroO with kind := 2, ev := ev, es := es }
theorem nId_good (m : Int) (h0 : 0 ≤ m) (h1 : m ≤ 255) : GoodID (nId m) := ⟨rfl, fun u hu => by
  rcases List.mem_cons.1 hu with rfl | hu
  · omega
  · rcases List.mem_cons.1 hu with rfl | hu
    · omega
    · have := List.eq_of_mem_replicate hu
      omega⟩
theorem nE_good (m : Int) (xs : List Int) (h0 : 0 ≤ m) (h1 : m ≤ 255) (hx : GoodText xs) : (nE m xs).Good := ⟨by show -9223372036854775808 ≤ m; omega, by show m ≤ 9223372036854775807; omega, hx, nId_good m h0 h1⟩
theorem name_len {xs : List Int} (h : nameB xs = true) : xs.length ≤ 255 := by
  simp only [nameB, lineB, Bool.and_eq_true, decide_eq_true_eq] at h
  omega
theorem nE_fault (m : Int) (xs : List Int) (h1 : 1 ≤ m) (h4 : m ≤ 4) : faultT [nE m xs] = if nameB xs = true then 0 else 32 := by
  have hm : modeB m = true := by simp [modeB]; omega
  unfold faultT
  rw [if_neg (by simp)]
  simp only [List.all_cons, List.all_nil, Bool.and_true, nE, hm]
  cases hx : nameB xs
  · simp
  · simp [ascB]
theorem nEncBad (ev : Value) (m : Int) (xs : List Int) (w : World) (hT : Tabs w) (hv : EntsAt w ev [nE m xs]) (h1 : 1 ≤ m) (h4 : m ≤ 4) (hx : GoodText xs) (hb : nameB xs = false) :
    Calls Tryd.prog 6 #[.agg (treO ev [nE m xs]).row.toArray] w fun e w' => e = .returned (.tuple #[.slice none 0 0, .int .i64 32]) ∧ Kept [] w w' := by
  have hg : ∀ e, e ∈ [nE m xs] → e.Good := fun e he => by rw [List.mem_singleton.1 he]; exact nE_good m xs (by omega) (by omega) hx
  have hf : faultT [nE m xs] = 32 := by rw [nE_fault m xs h1 h4, if_neg (by rw [hb]; decide)]
  refine (encodeTree (treO ev [nE m xs]) w rfl rfl rfl 32 [] (by decide) (fun W hW => ?_) (fun h => absurd h (by decide))).mono ?_
  · have h := treeFault_any ev [nE m xs] W (hT.kept hW) (hv.keep hW (fun _ _ _ => by simp)) hg
    rwa [hf] at h
  · rintro e w' ⟨hk, h, _⟩
    exact ⟨h (by decide), hk⟩
theorem ents_below {w : World} {v : Value} {es : List EntL} (h : EntsAt w v es) (hne : es ≠ []) : ∀ b, blkOf v = some b → b < w.heap.size := fun b hb => by
  obtain ⟨ao, cap, rfl, _, _, hc⟩ := h.form
  obtain ⟨b', off, rfl, hh⟩ := hc hne
  obtain rfl : b' = b := by simpa [blkOf] using hb
  obtain ⟨x, r, rfl⟩ : ∃ x r, es = x :: r := by cases es with | nil => exact absurd rfl hne | cons x r => exact ⟨x, r, rfl⟩
  exact World.block_lt_of_cell? w _ (hh 0 x rfl 0 (.int .i64 x.mode) rfl)
theorem nT_octs (m : Int) (xs : List Int) (h0 : 0 ≤ m) (h1 : m ≤ 255) (hx : Octs xs) (hl : xs.length ≤ 255) : Octs (encT [nE m xs]) := by
  unfold encT entsB
  simp only [List.flatMap_cons, List.flatMap_nil, List.append_nil]
  refine octs_app (octs_app (fixedB_octs _ _) (varB_octs _ (by simp) (by simp))) ?_
  exact octs_app (octs_app (fixedB_octs _ _) (octs_app (varB_octs _ (by omega) (by show (xs.length : Int) ≤ _; omega)) hx)) (nId_good m h0 h1).2
theorem nT_len (m : Int) (xs : List Int) (hl : xs.length ≤ 255) : (encT [nE m xs]).length ≤ 65536 := by
  have h := entsB_len [nE m xs] (fun e he => by rw [List.mem_singleton.1 he]; exact ⟨hl, rfl⟩)
  have h2 := varB_len ((1 : Nat) : Int) (by decide) (by decide)
  unfold encT
  rw [List.length_append, List.length_append, fixedB_len]
  simp only [List.length_cons, List.length_nil] at h ⊢
  have h2' : (varB ((0 + 1 : Nat) : Int)).length ≤ 10 := h2
  omega
theorem nEnc (ev : Value) (m : Int) (xs : List Int) (w : World) (hT : Tabs w) (hv : EntsAt w ev [nE m xs]) (h1 : 1 ≤ m) (h4 : m ≤ 4) (hx : GoodText xs) (hb : nameB xs = true) :
    Calls Tryd.prog 6 #[.agg (treO ev [nE m xs]).row.toArray] w fun e w' => ∃ b n, e = .returned (.tuple #[.slice (some ⟨b, 0, none⟩) n n, .int .i64 0]) ∧ BytesAt w' (.slice (some ⟨b, 0, none⟩) n n) (encT [nE m xs]) ∧ Kept [] w w' := by
  have hl := name_len hb
  have hg : ∀ e, e ∈ [nE m xs] → e.Good := fun e he => by rw [List.mem_singleton.1 he]; exact nE_good m xs (by omega) (by omega) hx
  have hf : faultT [nE m xs] = 0 := by rw [nE_fault m xs h1 h4, if_pos hb]
  have hlen := nT_len m xs hl
  refine (encodeTree (treO ev [nE m xs]) w rfl rfl rfl 0 (encT [nE m xs]) (by omega) (fun W hW => ?_) (fun _ W wb S hW h => ?_)).mono ?_
  · have h := treeFault_any ev [nE m xs] W (hT.kept hW) (hv.keep hW (fun _ _ _ => by simp)) hg
    rwa [hf] at h
  · refine treeWrite_any ev [nE m xs] h hW.size (hv.keep hW (fun _ _ _ => by simp)) (fun hne b hb hS => ?_) (fun e he => ?_) (by simp) (by simp)
    · have := ents_below hv hne b hb
      have := h.above b hS
      omega
    · have := hg e he
      rw [List.mem_singleton.1 he] at this ⊢
      exact ⟨this, by show 0 ≤ m; omega, by show m ≤ 255; omega, hl⟩
  · rintro e w' ⟨hk, _, _, h⟩
    obtain ⟨b, he, hrow, _⟩ := h rfl hlen
    exact ⟨b, _, he, bytes_row1 hrow, hk⟩
theorem nChil (v : Value) (m : Int) (xs : List Int) (w : World) (hT : Tabs w) (hv : BytesAt w v (encT [nE m xs])) (h1 : 1 ≤ m) (h4 : m ≤ 4) (hx : GoodText xs) (hb : nameB xs = true) :
    Calls Tryd.prog 16 #[v] w fun e w' => Kept [] w w' ∧ ∃ b, e = .returned (.tuple #[.slice (some ⟨b, 0, none⟩) 1 1, .int .i64 0]) ∧ w'.rangeAt b 0 ((nId m).map (Value.int .u8)) ∧ w'.cell? ⟨b, 32, none⟩ = some (.int .i64 (if m = 4 then 2 else 1)) := by
  have hl := name_len hb
  have hg : ∀ e, e ∈ [nE m xs] → e.Good := fun e he => by rw [List.mem_singleton.1 he]; exact nE_good m xs (by omega) (by omega) hx
  have hf : faultT [nE m xs] = 0 := by rw [nE_fault m xs h1 h4, if_pos hb]
  obtain ⟨t0, t1, t2⟩ := tree_back [nE m xs] (by simp) (fun e he => by rw [List.mem_singleton.1 he]; exact ⟨by show 0 ≤ m; omega, by show m ≤ 255; omega, hl, rfl⟩)
  have hrd := readTree v (encT [nE m xs]) w hv (nT_octs m xs (by omega) (by omega) hx.1 hl) (nT_len m xs hl) hT ⟨2, [], 1, 0⟩ t0.symm rfl _ t1.symm 1 rfl [nE m xs] _ 0 t2 (by decide) (Nat.le_refl _)
  refine (childrenTree v w [nE m xs] (slice_form hv) hg (by simp) (hrd.mono fun e w' h => ⟨h.1, h.2.1 ⟨rfl, rfl, hf⟩⟩)).mono ?_
  rintro e w' ⟨hk, b, he, hr, _⟩
  have hr0 := row_range hr
  refine ⟨hk, b, he, fun j u hj => hr0 j u ?_, ?_⟩
  · show ((nId m).map (Value.int .u8) ++ [Value.int .i64 (linkOf (nE m xs)).kind] ++ [])[j]? = some u
    rw [List.append_nil, List.getElem?_append_left (List.getElem?_eq_some_iff.1 hj).1]
    exact hj
  · exact hr0 32 _ rfl
/-- The tag that is tried: its name alone is given. -/
def nT (xs : List Int) : TagL := { zeroG with kind := 2, name := xs }
theorem zero_octs : Octs (List.replicate 32 (0 : Int)) := fun u hu => by have := List.eq_of_mem_replicate hu; omega
theorem nT_good (xs : List Int) (hx : GoodText xs) : (nT xs).Good := ⟨⟨rfl, zero_octs⟩, by show (-9223372036854775808 : Int) ≤ 2; decide, by show (2 : Int) ≤ 9223372036854775807; decide, hx, ⟨fun u hu => (by cases hu), by show 0 ≤ 140737488351232; decide⟩, by show (0 : Int) ≤ 0; decide, by show (0 : Int) ≤ 18446744073709551615; decide, ⟨fun u hu => (by cases hu), by show 0 ≤ 140737488351232; decide⟩⟩
theorem nT_fault (xs : List Int) : faultG (nT xs) = if nameB xs = true then 0 else 32 := by
  unfold faultG
  show (if modeB 2 = false then 30 else if nameB xs = false then 32 else if signB [] 0 [] = false then 36 else 0) = _
  rw [if_neg (show ¬ modeB 2 = false by decide), if_neg (show ¬ signB [] 0 [] = false by decide)]
  cases nameB xs <;> simp
theorem nEncTBad (xs : List Int) (w : World) (hT : Tabs w) (hx : GoodText xs) (hb : nameB xs = false) :
    Calls Tryd.prog 6 #[.agg (tagO (nT xs)).row.toArray] w fun e w' => e = .returned (.tuple #[.slice none 0 0, .int .i64 32]) ∧ Kept [] w w' := by
  have hf : faultG (nT xs) = 32 := by rw [nT_fault, if_neg (by rw [hb]; decide)]
  refine (encodeTag (tagO (nT xs)) w rfl rfl rfl 32 [] (by decide) (fun W hW => ?_) (fun h => absurd h (by decide))).mono ?_
  · have h := tagFault_any (nT xs) W (hT.kept hW) (nT_good xs hx)
    rwa [hf] at h
  · rintro e w' ⟨hk, h, _⟩
    exact ⟨h (by decide), hk⟩
theorem nG_octs (xs : List Int) (hx : Octs xs) (hl : xs.length ≤ 255) : Octs (encG (nT xs)) := by
  unfold encG
  exact octs_app (octs_app (octs_app (octs_app (octs_app (octs_app (octs_app (octs_app (octs_app (fixedB_octs _ _) zero_octs) (fixedB_octs _ _)) (varB_octs _ (by omega) (by show (xs.length : Int) ≤ _; omega))) hx) (varB_octs _ (by omega) (by show ((0 : Nat) : Int) ≤ _; omega))) (fun u hu => (by cases hu))) (fixedB_octs _ _)) (varB_octs _ (by omega) (by show ((0 : Nat) : Int) ≤ _; omega))) (fun u hu => (by cases hu))
theorem nG_len (xs : List Int) (hl : xs.length ≤ 255) : (encG (nT xs)).length ≤ 65536 := by
  have v1 := varB_len (xs.length : Int) (by omega) (by omega)
  have v2 := varB_len ((0 : Nat) : Int) (by decide) (by decide)
  have e : (encG (nT xs)).length = 1 + 32 + 1 + (varB (xs.length : Int)).length + xs.length + (varB ((0 : Nat) : Int)).length + 0 + 8 + (varB ((0 : Nat) : Int)).length + 0 := by
    unfold encG
    simp only [List.length_append, fixedB_len]
    rw [show (nT xs).target.length = 32 from rfl, show (nT xs).name = xs from rfl, show (nT xs).who.length = 0 from rfl, show (nT xs).text.length = 0 from rfl]
  omega
theorem nEncT (xs : List Int) (w : World) (hT : Tabs w) (hx : GoodText xs) (hb : nameB xs = true) :
    Calls Tryd.prog 6 #[.agg (tagO (nT xs)).row.toArray] w fun e w' => ∃ b n, e = .returned (.tuple #[.slice (some ⟨b, 0, none⟩) n n, .int .i64 0]) ∧ BytesAt w' (.slice (some ⟨b, 0, none⟩) n n) (encG (nT xs)) ∧ Kept [] w w' := by
  have hl := name_len hb
  have hlen := nG_len xs hl
  have hf : faultG (nT xs) = 0 := by rw [nT_fault, if_pos hb]
  refine (encodeT (nT xs) w hT (nT_good xs hx) (by omega) (by show xs.length + 0 + 0 ≤ _; omega)).mono ?_
  rintro e w' ⟨hk, _, _, h⟩
  obtain ⟨b, he, hrow, _⟩ := h hf hlen
  exact ⟨b, _, he, bytes_row1 hrow, hk⟩
theorem nParse (v : Value) (xs : List Int) (w : World) (hT : Tabs w) (hx : GoodText xs) (hv : BytesAt w v (encG (nT xs))) (hb : nameB xs = true) :
    Calls Tryd.prog 9 #[v] w fun e w' => Kept [] w w' ∧ e = .returned (.tuple #[.agg (tagO (nT xs)).row.toArray, .int .i64 0]) := by
  have hl := name_len hb
  have hf : faultG (nT xs) = 0 := by rw [nT_fault, if_pos hb]
  have hfit : (nT xs).Fit := ⟨rfl, by show (0 : Int) ≤ 2; decide, by show (2 : Int) ≤ 255; decide, hl, by show 0 ≤ 255; decide, by show (0 : Int) ≤ 0; decide, by show (0 : Int) ≤ 18446744073709551615; decide, by show 0 ≤ 4096; decide⟩
  exact parseTag v w (nT xs) (slice_form hv) rfl (fun W hW => readT (nT xs) v W (hT.kept hW) (hv.kept hW (fun _ _ => by simp)) (nG_octs xs hx.1 hl) (nG_len xs hl) hfit hf)
end Go.Proofs.YtnfbiemmdaenpaaDoor
