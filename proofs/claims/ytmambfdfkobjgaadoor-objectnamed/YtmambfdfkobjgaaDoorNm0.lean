/-
  A tree of one entry encoded, its children; a tag with a name encoded and parsed: what ObjectNamed calls.
-/
import Derived.Test.YtmambfdfkobjgaaDoorWk1
import Derived.Test.YtmambfdfkobjgaaDoorEncTree
import Derived.Test.YtmambfdfkobjgaaDoorReadT
namespace Go.Proofs.YtmambfdfkobjgaaDoor
open Go.RowKit

def nId (m : Int) : List Int := m :: 7 :: List.replicate 30 0
def nE (m : Int) (xs : List Int) : EntL := ⟨m, xs, nId m⟩
def treO (ev : Value) (es : List EntL) : ObjL := { zeroO with kind := 2, ev := ev, es := es }
theorem nId_good (m : Int) (h0 : 0 ≤ m) (h1 : m ≤ 255) : GoodID (nId m) := ⟨rfl, fun u hu => by
  rcases List.mem_cons.1 hu with rfl | hu
  · omega
  · rcases List.mem_cons.1 hu with rfl | hu
    · omega
    · have := List.eq_of_mem_replicate hu
      omega⟩
theorem nE_good (m : Int) (xs : List Int) (h0 : 0 ≤ m) (h1 : m ≤ 255) (hx : GoodText xs) : (nE m xs).Good := ⟨by show -9223372036854775808 ≤ m; omega, by show m ≤ 9223372036854775807; omega, hx, nId_good m h0 h1⟩
theorem name_len {xs : List Int} (h : nameB xs = true) : xs.length ≤ 255 := by
  simp only [nameB, lineB, Bool.and_eq_true, decide_eq_true_eq] at h
  omega
theorem nE_fault (m : Int) (xs : List Int) (h1 : 1 ≤ m) (h4 : m ≤ 4) : faultT [nE m xs] = if nameB xs = true then 0 else 32 := by
  have hm : modeB m = true := by simp [modeB]; omega
  unfold faultT
  rw [if_neg (by simp)]
  simp only [List.all_cons, List.all_nil, Bool.and_true, nE, hm]
  cases hx : nameB xs
  · simp
  · simp [ascB]
theorem nEncBad (ev : Value) (m : Int) (xs : List Int) (w : World) (hT : Tabs w) (hv : EntsAt w ev [nE m xs]) (h1 : 1 ≤ m) (h4 : m ≤ 4) (hx : GoodText xs) (hb : nameB xs = false) :
    Calls Tryd.prog 5 #[.agg (treO ev [nE m xs]).row.toArray] w fun e w' => e = .returned (.tuple #[.slice none 0 0, .int .i64 32]) ∧ Kept [] w w' := by
  have hg : ∀ e, e ∈ [nE m xs] → e.Good := fun e he => by rw [List.mem_singleton.1 he]; exact nE_good m xs (by omega) (by omega) hx
  have hf : faultT [nE m xs] = 32 := by rw [nE_fault m xs h1 h4, if_neg (by rw [hb]; decide)]
  refine (encodeTree (treO ev [nE m xs]) w rfl rfl rfl 32 [] (by decide) (fun W hW => ?_) (fun h => absurd h (by decide))).mono ?_
  · have h := treeFault_any ev [nE m xs] W (hT.kept hW) (hv.keep hW (fun _ _ _ => by simp)) hg
    rwa [hf] at h
  · rintro e w' ⟨hk, h, _⟩
    exact ⟨h (by decide), hk⟩
theorem ents_below {w : World} {v : Value} {es : List EntL} (h : EntsAt w v es) (hne : es ≠ []) : ∀ b, blkOf v = some b → b < w.heap.size := fun b hb => by
  obtain ⟨ao, cap, rfl, _, _, hc⟩ := h.form
  obtain ⟨b', off, rfl, hh⟩ := hc hne
  obtain rfl : b' = b := by simpa [blkOf] using hb
  obtain ⟨x, r, rfl⟩ : ∃ x r, es = x :: r := by cases es with | nil => exact absurd rfl hne | cons x r => exact ⟨x, r, rfl⟩
  exact World.block_lt_of_cell? w _ (hh 0 x rfl 0 (.int .i64 x.mode) rfl)
theorem nT_octs (m : Int) (xs : List Int) (h0 : 0 ≤ m) (h1 : m ≤ 255) (hx : Octs xs) (hl : xs.length ≤ 255) : Octs (encT [nE m xs]) := by
  unfold encT entsB
  simp only [List.flatMap_cons, List.flatMap_nil, List.append_nil]
  refine octs_app (octs_app (fixedB_octs _ _) (varB_octs _ (by simp) (by simp))) ?_
  exact octs_app (octs_app (fixedB_octs _ _) (octs_app (varB_octs _ (by omega) (by show (xs.length : Int) ≤ _; omega)) hx)) (nId_good m h0 h1).2
theorem nT_len (m : Int) (xs : List Int) (hl : xs.length ≤ 255) : (encT [nE m xs]).length ≤ 65536 := by
  have h := entsB_len [nE m xs] (fun e he => by rw [List.mem_singleton.1 he]; exact ⟨hl, rfl⟩)
  have h2 := varB_len ((1 : Nat) : Int) (by decide) (by decide)
  unfold encT
  rw [List.length_append, List.length_append, fixedB_len]
  simp only [List.length_cons, List.length_nil] at h ⊢
  have h2' : (varB ((0 + 1 : Nat) : Int)).length ≤ 10 := h2
  omega
theorem nEnc (ev : Value) (m : Int) (xs : List Int) (w : World) (hT : Tabs w) (hv : EntsAt w ev [nE m xs]) (h1 : 1 ≤ m) (h4 : m ≤ 4) (hx : GoodText xs) (hb : nameB xs = true) :
    Calls Tryd.prog 5 #[.agg (treO ev [nE m xs]).row.toArray] w fun e w' => ∃ b n, e = .returned (.tuple #[.slice (some ⟨b, 0, none⟩) n n, .int .i64 0]) ∧ BytesAt w' (.slice (some ⟨b, 0, none⟩) n n) (encT [nE m xs]) ∧ Kept [] w w' := by
  have hl := name_len hb
  have hg : ∀ e, e ∈ [nE m xs] → e.Good := fun e he => by rw [List.mem_singleton.1 he]; exact nE_good m xs (by omega) (by omega) hx
  have hf : faultT [nE m xs] = 0 := by rw [nE_fault m xs h1 h4, if_pos hb]
  have hlen := nT_len m xs hl
  refine (encodeTree (treO ev [nE m xs]) w rfl rfl rfl 0 (encT [nE m xs]) (by omega) (fun W hW => ?_) (fun _ W wb S hW h => ?_)).mono ?_
  · have h := treeFault_any ev [nE m xs] W (hT.kept hW) (hv.keep hW (fun _ _ _ => by simp)) hg
    rwa [hf] at h
  · refine treeWrite_any ev [nE m xs] h hW.size (hv.keep hW (fun _ _ _ => by simp)) (fun hne b hb hS => ?_) (fun e he => ?_) (by simp) (by simp)
    · have := ents_below hv hne b hb
      have := h.above b hS
      omega
    · have := hg e he
      rw [List.mem_singleton.1 he] at this ⊢
      exact ⟨this, by show 0 ≤ m; omega, by show m ≤ 255; omega, hl⟩
  · rintro e w' ⟨hk, _, _, h⟩
    obtain ⟨b, he, hrow, _⟩ := h rfl hlen
    exact ⟨b, _, he, bytes_row1 hrow, hk⟩
theorem nChil (v : Value) (m : Int) (xs : List Int) (w : World) (hT : Tabs w) (hv : BytesAt w v (encT [nE m xs])) (h1 : 1 ≤ m) (h4 : m ≤ 4) (hx : GoodText xs) (hb : nameB xs = true) :
    Calls Tryd.prog 7 #[v] w fun e w' => Kept [] w w' ∧ ∃ b, e = .returned (.tuple #[.slice (some ⟨b, 0, none⟩) 1 1, .int .i64 0]) ∧ w'.rangeAt b 0 ((nId m).map (Value.int .u8)) ∧ w'.cell? ⟨b, 32, none⟩ = some (.int .i64 (if m = 4 then 2 else 1)) := by
  have hl := name_len hb
  have hg : ∀ e, e ∈ [nE m xs] → e.Good := fun e he => by rw [List.mem_singleton.1 he]; exact nE_good m xs (by omega) (by omega) hx
  have hf : faultT [nE m xs] = 0 := by rw [nE_fault m xs h1 h4, if_pos hb]
  obtain ⟨t0, t1, t2⟩ := tree_back [nE m xs] (by simp) (fun e he => by rw [List.mem_singleton.1 he]; exact ⟨by show 0 ≤ m; omega, by show m ≤ 255; omega, hl, rfl⟩)
  have hrd := readTree v (encT [nE m xs]) w hv (nT_octs m xs (by omega) (by omega) hx.1 hl) (nT_len m xs hl) hT ⟨2, [], 1, 0⟩ t0.symm rfl _ t1.symm 1 rfl [nE m xs] _ 0 t2 (by decide) (Nat.le_refl _)
  refine (childrenTree v w [nE m xs] (slice_form hv) hg (by simp) (hrd.mono fun e w' h => ⟨h.1, h.2.1 ⟨rfl, rfl, hf⟩⟩)).mono ?_
  rintro e w' ⟨hk, b, he, hr, _⟩
  have hr0 := row_range hr
  refine ⟨hk, b, he, fun j u hj => hr0 j u ?_, ?_⟩
  · show ((nId m).map (Value.int .u8) ++ [Value.int .i64 (linkOf (nE m xs)).kind] ++ [])[j]? = some u
    rw [List.append_nil, List.getElem?_append_left (List.getElem?_eq_some_iff.1 hj).1]
    exact hj
  · exact hr0 32 _ rfl
/-- The tag that is tried: its name alone is given. -/
def nT (xs : List Int) : TagL := { zeroG with kind := 2, name := xs }
theorem zero_octs : Octs (List.replicate 32 (0 : Int)) := fun u hu => by have := List.eq_of_mem_replicate hu; omega
theorem nT_good (xs : List Int) (hx : GoodText xs) : (nT xs).Good := ⟨⟨rfl, zero_octs⟩, by show (-9223372036854775808 : Int) ≤ 2; decide, by show (2 : Int) ≤ 9223372036854775807; decide, hx, ⟨fun u hu => (by cases hu), by show 0 ≤ 140737488351232; decide⟩, by show (0 : Int) ≤ 0; decide, by show (0 : Int) ≤ 18446744073709551615; decide, ⟨fun u hu => (by cases hu), by show 0 ≤ 140737488351232; decide⟩⟩
theorem nT_fault (xs : List Int) : faultG (nT xs) = if nameB xs = true then 0 else 32 := by
  unfold faultG
  show (if modeB 2 = false then 30 else if nameB xs = false then 32 else if signB [] 0 [] = false then 36 else 0) = _
  rw [if_neg (show ¬ modeB 2 = false by decide), if_neg (show ¬ signB [] 0 [] = false by decide)]
  cases nameB xs <;> simp
theorem nEncTBad (xs : List Int) (w : World) (hT : Tabs w) (hx : GoodText xs) (hb : nameB xs = false) :
    Calls Tryd.prog 5 #[.agg (tagO (nT xs)).row.toArray] w fun e w' => e = .returned (.tuple #[.slice none 0 0, .int .i64 32]) ∧ Kept [] w w' := by
  have hf : faultG (nT xs) = 32 := by rw [nT_fault, if_neg (by rw [hb]; decide)]
  refine (encodeTag (tagO (nT xs)) w rfl rfl rfl 32 [] (by decide) (fun W hW => ?_) (fun h => absurd h (by decide))).mono ?_
  · have h := tagFault_any (nT xs) W (hT.kept hW) (nT_good xs hx)
    rwa [hf] at h
  · rintro e w' ⟨hk, h, _⟩
    exact ⟨h (by decide), hk⟩
theorem nG_octs (xs : List Int) (hx : Octs xs) (hl : xs.length ≤ 255) : Octs (encG (nT xs)) := by
  unfold encG
  exact octs_app (octs_app (octs_app (octs_app (octs_app (octs_app (octs_app (octs_app (octs_app (fixedB_octs _ _) zero_octs) (fixedB_octs _ _)) (varB_octs _ (by omega) (by show (xs.length : Int) ≤ _; omega))) hx) (varB_octs _ (by omega) (by show ((0 : Nat) : Int) ≤ _; omega))) (fun u hu => (by cases hu))) (fixedB_octs _ _)) (varB_octs _ (by omega) (by show ((0 : Nat) : Int) ≤ _; omega))) (fun u hu => (by cases hu))
theorem nG_len (xs : List Int) (hl : xs.length ≤ 255) : (encG (nT xs)).length ≤ 65536 := by
  have v1 := varB_len (xs.length : Int) (by omega) (by omega)
  have v2 := varB_len ((0 : Nat) : Int) (by decide) (by decide)
  have e : (encG (nT xs)).length = 1 + 32 + 1 + (varB (xs.length : Int)).length + xs.length + (varB ((0 : Nat) : Int)).length + 0 + 8 + (varB ((0 : Nat) : Int)).length + 0 := by
    unfold encG
    simp only [List.length_append, fixedB_len]
    rw [show (nT xs).target.length = 32 from rfl, show (nT xs).name = xs from rfl, show (nT xs).who.length = 0 from rfl, show (nT xs).text.length = 0 from rfl]
  omega
theorem nEncT (xs : List Int) (w : World) (hT : Tabs w) (hx : GoodText xs) (hb : nameB xs = true) :
    Calls Tryd.prog 5 #[.agg (tagO (nT xs)).row.toArray] w fun e w' => ∃ b n, e = .returned (.tuple #[.slice (some ⟨b, 0, none⟩) n n, .int .i64 0]) ∧ BytesAt w' (.slice (some ⟨b, 0, none⟩) n n) (encG (nT xs)) ∧ Kept [] w w' := by
  have hl := name_len hb
  have hlen := nG_len xs hl
  have hf : faultG (nT xs) = 0 := by rw [nT_fault, if_pos hb]
  refine (encodeT (nT xs) w hT (nT_good xs hx) (by omega) (by show xs.length + 0 + 0 ≤ _; omega)).mono ?_
  rintro e w' ⟨hk, _, _, h⟩
  obtain ⟨b, he, hrow, _⟩ := h hf hlen
  exact ⟨b, _, he, bytes_row1 hrow, hk⟩
theorem nParse (v : Value) (xs : List Int) (w : World) (hT : Tabs w) (hx : GoodText xs) (hv : BytesAt w v (encG (nT xs))) (hb : nameB xs = true) :
    Calls Tryd.prog 8 #[v] w fun e w' => Kept [] w w' ∧ e = .returned (.tuple #[.agg (tagO (nT xs)).row.toArray, .int .i64 0]) := by
  have hl := name_len hb
  have hf : faultG (nT xs) = 0 := by rw [nT_fault, if_pos hb]
  have hfit : (nT xs).Fit := ⟨rfl, by show (0 : Int) ≤ 2; decide, by show (2 : Int) ≤ 255; decide, hl, by show 0 ≤ 255; decide, by show (0 : Int) ≤ 0; decide, by show (0 : Int) ≤ 18446744073709551615; decide, by show 0 ≤ 4096; decide⟩
  exact parseTag v w (nT xs) (slice_form hv) rfl (fun W hW => readT (nT xs) v W (hT.kept hW) (hv.kept hW (fun _ _ => by simp)) (nG_octs xs hx.1 hl) (nG_len xs hl) hfit hf)
end Go.Proofs.YtmambfdfkobjgaaDoor
