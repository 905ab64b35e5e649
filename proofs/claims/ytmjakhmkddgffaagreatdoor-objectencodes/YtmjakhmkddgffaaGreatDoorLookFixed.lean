/-
  WALKS: satchelref3.Line, Name: for every text.
  Ids as values, in memory, and lists of them.
  WALK: code.copied, for every slice of bytes: a new row that holds the same bytes.
  WALK: code.lookFixed, for every slice of bytes and size 1 to 8.
-/
import Derived.Test.YtmjakhmkddgffaaGreatDoorSg1
import Derived.Test.YtmjakhmkddgffaaGreatDoorOwn0
import Derived.Test.YtmjakhmkddgffaaGreatDoorConv
import Derived.Laws.BytesArg
import Derived.Laws.ResultCell
import Derived.Deep.MidRow
import Derived.Outline
namespace Go.Proofs.YtmjakhmkddgffaaGreatDoor
open Go.RowKit

/-- What is left of a line to be read, behind k bytes. -/
def LRun (xs : List Int) (k : Nat) : Prop := ∃ f, (xs.drop k).length ≤ f ∧ lineW xs.length xs = lineW f (xs.drop k)
theorem LRun.start (xs : List Int) : LRun xs 0 := ⟨xs.length, by simp, by simp⟩
theorem LRun.bad {xs : List Int} {k : Nat} (h : LRun xs k) (hk : k < xs.length) (hb : signN (xs.drop k) = 0 ∨ okByte (xs.getD k 0) = false) : lineW xs.length xs = false := by
  obtain ⟨f, hf, e⟩ := h
  rw [List.length_drop] at hf
  rw [e]
  cases f with
  | zero => omega
  | succ f =>
    have hne : xs.drop k ≠ [] := by
      intro h0
      have := congrArg List.length h0
      rw [List.length_drop] at this
      simp at this
      omega
    unfold lineW
    rw [if_neg hne, getD_drop, Nat.add_zero, if_pos hb]
theorem LRun.on {xs : List Int} {k : Nat} (h : LRun xs k) (hk : k < xs.length) (hs : signN (xs.drop k) ≠ 0) (hb : okByte (xs.getD k 0) = true) : LRun xs (k + signN (xs.drop k)) ∧ k + signN (xs.drop k) ≤ xs.length := by
  obtain ⟨f, hf, e⟩ := h
  rw [List.length_drop] at hf
  have hp : 0 < (xs.drop k).length := by rw [List.length_drop]; omega
  have h3 := (sign_high (xs.drop k) hs hp).1
  rw [List.length_drop] at h3
  cases f with
  | zero => omega
  | succ f =>
    have hne : xs.drop k ≠ [] := List.length_pos_iff.1 hp
    refine ⟨⟨f, by rw [List.length_drop]; omega, ?_⟩, by omega⟩
    rw [e]
    conv => lhs; unfold lineW
    rw [if_neg hne, getD_drop, Nat.add_zero, if_neg (by rintro (h | h); · exact hs h
                                                        · rw [hb] at h; cases h), List.drop_drop]
theorem LRun.ends {xs : List Int} {k : Nat} (h : LRun xs k) (hk : xs.length ≤ k) : lineW xs.length xs = true := by
  obtain ⟨f, hf, e⟩ := h
  rw [e, List.drop_eq_nil_of_le hk]
  cases f <;> simp [lineW]

set_option maxRecDepth 100000 in
set_option maxHeartbeats 4000000 in
theorem RLine_any (xs : List Int) (ho : Octs xs) (hs : xs.length ≤ 140737488355328) (most : Int) (w : World) :
    Calls Tryz.prog 43 #[.string (strOfNums xs), .int .i64 most] w fun e w' => e = .returned (.bool (lineB xs most)) ∧ w' = w := by
  have hsz := strOfNums_size xs
  rw [line_is xs ho most]
  by_cases hm : (xs.length : Int) ≤ most
  · have hgt : decide (most < (xs.length : Int)) = false := decide_eq_false (by omega)
    rw [decide_eq_true hm, Bool.true_and]
    have HSG : Hid (∀ k, k < xs.length → ∀ W, Calls Tryz.prog 73 #[.string (strOfNums xs), .int .i64 k] W fun e w' => e = .returned (.int .i64 (signN (xs.drop k))) ∧ w' = W) := fun k hk W => sign_any xs ho hs k hk W
    have HIX : Hid (∀ k, k < xs.length → ∀ W, (Instr.index 9 (.string (strOfNums xs)) (.int .i64 k)).run Tryz.prog W = .ok (.int .u8 (xs.getD k 0)) W) := fun k hk W => str_ix xs ho k hk W
    have HOc : Hid (∀ k, 0 ≤ xs.getD k 0 ∧ xs.getD k 0 ≤ 255) := fun k => by
      rw [List.getD_eq_getElem?_getD]
      exact octs_getD ho k
    clear ho hm
    generalize strOfNums xs = S at *
    go_enter Tryz.func43, Tryz.ntmps43
    go_wp2
    go_loopw [5, 6] (fun s5 _ wr => ∃ k : Nat, k ≤ xs.length ∧ s5 = .int .i64 k ∧ wr = w ∧ Hid (LRun xs k)) (fun s5 _ _ => xs.length - (intOf s5).toNat)
    case atStart => exact ⟨0, Nat.zero_le _, rfl, rfl, LRun.start xs⟩
    case round =>
      obtain ⟨k, hk, rfl, hw, HR⟩ := hrel
      subst hw
      by_cases hlt : k < xs.length
      · have d0 : decide ((k : Int) < (xs.length : Int)) = true := by simp; omega
        have hix := HIX.out k hlt
        have hsg := HSG.out k hlt wr
        have hx := HOc.out k
        have HBad : Hid ((signN (xs.drop k) = 0 ∨ okByte (xs.getD k 0) = false) → lineW xs.length xs = false) := fun h => HR.out.bad hlt h
        have HOn : Hid (signN (xs.drop k) ≠ 0 → okByte (xs.getD k 0) = true → LRun xs (k + signN (xs.drop k)) ∧ k + signN (xs.drop k) ≤ xs.length) := fun a b => HR.out.on hlt a b
        generalize xs.getD k 0 = x at *
        generalize signN (xs.drop k) = n at *
        clear HR
        by_cases hn : n = 0
        · subst hn
          have HF : Hid (lineW xs.length xs = false) := HBad.out (Or.inl rfl)
          go_wp2_with fail
          go_at_call 73
          refine hsg.mono ?_
          rintro e w9 ⟨rfl, hw9⟩
          subst w9
          go_wp2
          go_ret
          exact ⟨by rw [HF.out]; exact rfl, rfl⟩
        · have e0 : ((n : Int) == 0) = false := by simp; omega
          by_cases h1 : x < 32
          · have d1 : decide (x < 32) = true := by simpa using h1
            have HF : Hid (lineW xs.length xs = false) := HBad.out (Or.inr (by unfold okByte; simp; omega))
            go_wp2_with fail
            go_at_call 73
            refine hsg.mono ?_
            rintro e w9 ⟨rfl, hw9⟩
            subst w9
            go_wp2
            go_ret
            exact ⟨by rw [HF.out]; exact rfl, rfl⟩
          · have d1 : decide (x < 32) = false := by simpa using h1
            by_cases h2 : x = 127
            · have d2 : (x == 127) = true := by simpa using h2
              have HF : Hid (lineW xs.length xs = false) := HBad.out (Or.inr (by unfold okByte; simp; omega))
              clear h2
              go_wp2_with fail
              go_at_call 73
              refine hsg.mono ?_
              rintro e w9 ⟨rfl, hw9⟩
              subst w9
              go_wp2
              go_ret
              exact ⟨by rw [HF.out]; exact rfl, rfl⟩
            · have d2 : (x == 127) = false := by simpa using h2
              obtain ⟨hL, hle⟩ := HOn.out hn (by unfold okByte; simp; omega)
              have HL : Hid (LRun xs (k + n)) := hL
              have hw1 : IntKind.i64.wrap ((k : Int) + n) = ((k + n : Nat) : Int) := by rw [IntKind.wrap_i64]; omega
              clear hL h2 HBad HOn
              generalize hkn : k + n = kn at *
              have HKN : Hid (k + n = kn) := hkn
              clear hkn
              go_wp2_with fail
              go_at_call 73
              refine hsg.mono ?_
              rintro e w9 ⟨rfl, hw9⟩
              subst w9
              go_wp2
              go_roundw
              case rel => exact ⟨kn, hle, rfl, by first | exact rfl | trivial, HL.out⟩
              case measure => have := HKN.out; simp [intOf]; omega
      · have d0 : decide ((k : Int) < (xs.length : Int)) = false := by simp; omega
        have HF : Hid (lineW xs.length xs = true) := HR.out.ends (by omega)
        go_wp2
        go_ret
        exact ⟨by rw [HF.out]; exact rfl, rfl⟩
  · have hgt : decide (most < (xs.length : Int)) = true := decide_eq_true (by omega)
    rw [decide_eq_false hm, Bool.false_and]
    clear hm
    generalize strOfNums xs = S at *
    go_enter Tryz.func43, Tryz.ntmps43
    go_wp2
    go_ret
    exact ⟨rfl, rfl⟩

set_option maxRecDepth 100000 in
set_option maxHeartbeats 4000000 in
theorem RName_any (xs : List Int) (ho : Octs xs) (hs : xs.length ≤ 140737488355328) (w : World) :
    Calls Tryz.prog 26 #[.string (strOfNums xs)] w fun e w' => e = .returned (.bool (nameB xs)) ∧ w' = w := by
  have hline := RLine_any xs ho hs 255 w
  have hsz := strOfNums_size xs
  have HIX : Hid (∀ k, k < xs.length → ∀ W, (Instr.index 9 (.string (strOfNums xs)) (.int .i64 k)).run Tryz.prog W = .ok (.int .u8 (xs.getD k 0)) W) := fun k hk W => str_ix xs ho k hk W
  have h0 := str_list xs [] [] ho (fun u hu => by simp at hu) rfl
  have h1 := str_list xs [46] [46] ho (fun u hu => by simp at hu; omega) rfl
  have h2 := str_list xs [46, 46] [46, 46] ho (fun u hu => by simp at hu; omega) rfl
  clear ho
  generalize strOfNums xs = S at *
  by_cases c0 : xs = []
  · have HN : Hid (nameB xs = false) := by
      have : nameB xs = false := by unfold nameB; rw [decide_eq_true c0]; rfl
      exact this
    have p0 := h0.2 c0
    clear h0 h1 h2 hline c0
    go_enter Tryz.func26, Tryz.ntmps26
    go_wp2
    go_ret
    exact ⟨by rw [HN.out]; rfl, rfl⟩
  · have p0 : ¬ S.toList = [] := fun e => c0 (h0.1 e)
    by_cases c1 : xs = [46]
    · have HN : Hid (nameB xs = false) := by
        have : nameB xs = false := by unfold nameB; rw [decide_eq_true c1]; simp
        exact this
      have p1 := h1.2 c1
      clear h0 h1 h2 hline c0 c1 p0
      go_enter Tryz.func26, Tryz.ntmps26
      go_wp2
      go_ret
      exact ⟨by rw [HN.out]; rfl, rfl⟩
    · have p1 : ¬ S.toList = [46] := fun e => c1 (h1.1 e)
      by_cases c2 : xs = [46, 46]
      · have HN : Hid (nameB xs = false) := by
          have : nameB xs = false := by unfold nameB; rw [decide_eq_true c2]; simp
          exact this
        have p2 := h2.2 c2
        clear h0 h1 h2 hline c0 c1 c2 p0 p1
        go_enter Tryz.func26, Tryz.ntmps26
        go_wp2
        go_ret
        exact ⟨by rw [HN.out]; rfl, rfl⟩
      · have p2 : ¬ S.toList = [46, 46] := fun e => c2 (h2.1 e)
        have HN : Hid (nameB xs = (lineB xs 255 && !decide (47 ∈ xs))) := by
          have : nameB xs = (lineB xs 255 && !decide (47 ∈ xs)) := by unfold nameB; rw [decide_eq_false c0, decide_eq_false c1, decide_eq_false c2]; rfl
          exact this
        have q0 : S.toList.isEmpty = false := by simpa using p0
        have q1 : (S.toList == [46]) = false := by simpa using p1
        have q2 : (S.toList == [46, 46]) = false := by simpa using p2
        clear h0 h1 h2 c0 c1 c2 p0 p1 p2
        generalize lineB xs 255 = b3 at *
        cases b3
        · go_enter Tryz.func26, Tryz.ntmps26
          go_wp2_with (go_at_call 43; refine hline.mono ?_; rintro e w1 ⟨rfl, hw1⟩; subst w1)
          go_ret
          exact ⟨by rw [HN.out]; rfl, rfl⟩
        · go_enter Tryz.func26, Tryz.ntmps26
          go_wp2_with (go_at_call 43; refine hline.mono ?_; rintro e w1 ⟨rfl, hw1⟩; subst w1)
          go_loopw [3] (fun s3 wr => ∃ k : Nat, k ≤ xs.length ∧ s3 = .int .i64 k ∧ wr = w ∧ Hid (∀ i, i < k → xs.getD i 0 ≠ 47)) (fun s3 _ => xs.length - (intOf s3).toNat)
          case atStart => exact ⟨0, Nat.zero_le _, rfl, rfl, fun i h => absurd h (by omega)⟩
          case round =>
            obtain ⟨k, hk, rfl, hw, HR⟩ := hrel
            subst hw
            by_cases hlt : k < xs.length
            · have d0 : decide ((k : Int) < (xs.length : Int)) = true := by simp; omega
              have hix := HIX.out k hlt
              by_cases hx : xs.getD k 0 = 47
              · have HF : Hid (nameB xs = false) := by
                  have hm : (47 : Int) ∈ xs := by
                    rw [← hx, List.getD_eq_getElem?_getD, List.getElem?_eq_getElem hlt]
                    exact List.getElem_mem hlt
                  have e : nameB xs = false := by rw [HN.out, decide_eq_true hm]; rfl
                  exact e
                have d1 : (xs.getD k 0 == 47) = true := by simpa using hx
                clear hx
                generalize xs.getD k 0 = x at *
                go_wp2
                go_ret
                exact ⟨by rw [HF.out]; rfl, rfl⟩
              · have HS : Hid (∀ i, i < k + 1 → xs.getD i 0 ≠ 47) := fun i hi => by
                  by_cases e : i = k
                  · rw [e]; exact hx
                  · exact HR.out i (by omega)
                have d1 : (xs.getD k 0 == 47) = false := by simpa using hx
                clear hx HR
                generalize xs.getD k 0 = x at *
                go_wp2
                go_roundw
                case rel => exact ⟨k + 1, by omega, by go_num, by first | exact rfl | trivial, HS.out⟩
                case measure => simp [intOf]; omega
            · have d0 : decide ((k : Int) < (xs.length : Int)) = false := by simp; omega
              have HF : Hid (nameB xs = true) := by
                have hm : ¬ (47 : Int) ∈ xs := fun hm => by
                  obtain ⟨i, hi, e⟩ := List.getElem_of_mem hm
                  refine HR.out i (by omega) ?_
                  rw [List.getD_eq_getElem?_getD, List.getElem?_eq_getElem hi]
                  exact e
                have e : nameB xs = true := by rw [HN.out, decide_eq_false hm]; rfl
                exact e
              go_wp2
              go_ret
              exact ⟨by rw [HF.out]; rfl, rfl⟩
end Go.Proofs.YtmjakhmkddgffaaGreatDoor

namespace Go.Proofs.YtmjakhmkddgffaaGreatDoor
open Go.RowKit

/-- An id as a value. -/
def idC (bs : List Int) : Array Value := (bs.map (Value.int .u8)).toArray
theorem idC_get {bs : List Int} {j : Nat} (h : j < bs.length) : (idC bs)[j]? = some (.int .u8 (bs[j]?.getD 0)) := by
  unfold idC
  rw [← Array.getElem?_toList]
  simp [List.getElem?_eq_getElem h]
theorem row_bytes' {w : World} {q : Nat} {ys : List Int} (h : w.heap[q]? = some (.cells (ys.map (Value.int .u8)).toArray 5 (0, 0))) : BytesAt w (.slice (some ⟨q, 0, none⟩) ys.length ys.length) ys := by
  refine ⟨_, _, rfl, Nat.le_refl _, fun e => (by simp at e), fun _ => ⟨q, 0, rfl, fun i u hu => ?_⟩⟩
  rw [cell_of_row _ _ _ _ _ _ h, Nat.zero_add, ← Array.getElem?_toList]
  simp [hu]

theorem Tryz.infoID : (Tryz.prog.info? 29).map (·.size) = some 32 := by kernel_rfl
theorem idC_size {bs : List Int} (h : bs.length = 32) : (idC bs).size = 32 := by simp [idC, h]
def GoodID (xs : List Int) : Prop := xs.length = 32 ∧ Octs xs
/-- The zero id's bytes. -/
def zero32 : List Int := List.replicate 32 0
theorem kept_setRow {w wr : World} (h : Kept [] w wr) {g : Nat} (hg : w.heap.size ≤ g) (cs : Array Value) : Kept [] w (wr.setRow g cs) :=
  kept_of_below (below_setRow (h.below (Nat.le_refl _) (by simp)) hg cs)

theorem range_kept {w w' : World} {b o : Nat} {cs : List Value} {T : List Nat} (h : w.rangeAt b o cs) (k : Kept T w w') (hn : b ∉ T) : w'.rangeAt b o cs := fun j v hj => k.cell (h j v hj) hn
theorem range_box (w : World) (bs : List Int) (t : TypeId) : (w.alloc (.cells (idC bs) t)).rangeAt w.heap.size 0 (bs.map (Value.int .u8)) := fun j v hj => by
  rw [cell_of_row _ _ _ _ _ _ (heap_alloc_new w _), Nat.zero_add, ← Array.getElem?_toList]
  simpa [idC] using hj

/-- A list of ids lies so. -/
def IdsAt (w : World) (v : Value) (ids : List (List Int)) : Prop :=
  ∃ ao cap, v = .slice ao ids.length cap ∧ ids.length ≤ cap ∧ (ao = none → cap = 0) ∧ ids.length ≤ 140737488351232 ∧ (ids ≠ [] → ∃ b off, ao = some ⟨b, off, none⟩ ∧ ∀ (i : Nat) (xs : List Int), ids[i]? = some xs → w.rangeAt b (off + i * 32) (xs.map (Value.int .u8)))
theorem IdsAt.keep {w w' : World} {v : Value} {ids : List (List Int)} {T : List Nat} (h : IdsAt w v ids) (k : Kept T w w') (hn : ids ≠ [] → ∀ b, blkOf v = some b → b ∉ T) : IdsAt w' v ids := by
  obtain ⟨ao, cap, rfl, h1, h0, h2, hc⟩ := h
  refine ⟨ao, cap, rfl, h1, h0, h2, fun hne => ?_⟩
  obtain ⟨b, off, rfl, hh⟩ := hc hne
  exact ⟨b, off, rfl, fun i xs hi => range_kept (hh i xs hi) k (hn hne b rfl)⟩

end Go.Proofs.YtmjakhmkddgffaaGreatDoor

namespace Go.Proofs.YtmjakhmkddgffaaGreatDoor
open Go.RowKit

set_option maxHeartbeats 400000 in
theorem copied_any (v : Value) (ys : List Int) (w : World) (h : BytesAt w v ys) (hm : ys.length ≤ 140737488355328) :
    Calls Tryz.prog 44 #[v] w fun e w' => e = .returned (.slice (some ⟨w.heap.size, 0, none⟩) ys.length ys.length) ∧
      w'.heap[w.heap.size]? = some (.cells (ys.map (Value.int .u8)).toArray 5 (0, 0)) ∧ Kept [] w w' := by
  obtain ⟨ao, cap, rfl, hc, hnil, hcell⟩ := h
  have hmk := run_make_row' (P := Tryz.prog) 26 5 (.int .u8 0) 1 Tryz.underlying26 Tryz.info_u8 rfl .i64 .i64 ys.length (by omega) (by omega)
  obtain ⟨cs, hcs⟩ : ∃ cs, cs = ys.map (Value.int .u8) := ⟨_, rfl⟩
  have HC : Hid (cs = ys.map (Value.int .u8)) := hcs
  clear hcs
  go_enter Tryz.func44, Tryz.ntmps44
  go_wp2_with (refine wpList_copy_splice rfl (.tmp 7) (.tmp 8) 26 26 rfl 5 Tryz.underlying26 Tryz.size_u8 _ _ _ _ _ _ rfl rfl w.heap.size 0 (List.replicate ys.length (.int .u8 0)) 5 ?cg cs ?cn ?cp ?cf ?co w.heap.size w ?cb (Nat.le_refl _) ?_)
  case cg => rw [← toList_madeCells_one]; exact heap_alloc_new w _
  case cn => rw [HC.out]; simp
  case cp =>
    intro h0
    rw [HC.out] at h0
    obtain ⟨b, off, rfl, hh⟩ := hcell (by rintro rfl; simp at h0)
    refine ⟨_, rfl, fun j u hu => ?_⟩
    rw [HC.out] at hu
    simp only [List.getElem?_map, Option.map_eq_some_iff] at hu
    obtain ⟨z, hz, rfl⟩ := hu
    rw [Addr.add_mid, World.cell?_alloc_lt]
    · exact hh j z hz
    · exact World.block_lt_of_cell? w _ (hh j z hz)
  case cf => rw [HC.out]; simp
  case co => rw [HC.out]; exact map_oneCell ys
  case cb => exact (Below.refl _ _).alloc (Nat.le_refl _) _
  intro w2 hg hb
  go_wp2
  go_ret
  refine ⟨rfl, ?_, kept_of_below hb⟩
  rw [hg.out, splice_all _ _ _ (by rw [HC.out]; simp), HC.out]

end Go.Proofs.YtmjakhmkddgffaaGreatDoor

namespace Go.Proofs.YtmjakhmkddgffaaGreatDoor
open Go.RowKit

set_option maxHeartbeats 400000 in
theorem lookFixed_yes (b off cap : Nat) (ys : List Int) (size : Nat) (w : World) (hs0 : 1 ≤ size) (hs : size ≤ 8) (hlen : size ≤ ys.length) (hm : ys.length ≤ 140737488355328) (ho : Octs ys)
    (hcell : ∀ i, i < ys.length → w.cell? ⟨b, off + i, none⟩ = some (.int .u8 (ys[i]?.getD 0))) :
    Calls Tryz.prog 93 #[.slice (some ⟨b, off, none⟩) ys.length cap, .int .i64 size] w fun e w' =>
      e = .returned (.tuple #[.agg #[.int .u64 (be (ys.take size)), .int .i64 size, .int .i64 size], .int .i64 0]) ∧ Kept [] w w' := by
  go_enter Tryz.func93, Tryz.ntmps93
  go_wp2
  go_loop [6, 14] (fun n i => ∃ k : Nat, k ≤ size ∧ i = .int .i64 k ∧ n = .int .u64 (be (ys.take k))) (fun _ i => size - (intOf i).toNat)
  case atStart => exact ⟨0, Nat.zero_le _, rfl, rfl⟩
  case round =>
    obtain ⟨k, hk, rfl, rfl⟩ := hrel
    by_cases hlt : k < size
    · have hb := be_le8 (ys.take k) (octs_take ho k) (by simp; omega)
      have hx := octs_getD ho k
      have hc : (w.alloc (.cells #[.int .u64 0, .int .i64 0, .int .i64 0] 148)).cell? ⟨b, off + k, none⟩ = some (.int .u8 (ys[k]?.getD 0)) := by
        rw [World.cell?_alloc_lt]
        · exact hcell k (by omega)
        · exact World.block_lt_of_cell? w _ (hcell k (by omega))
      have hst := be_step (be (ys.take k)) (ys[k]?.getD 0) hb.1 hb.2 hx.1 hx.2
      have hsn := be_snoc (ys.take k) (ys[k]?.getD 0)
      have hts := take_snoc ys k (by omega)
      have HF : Hid (bits .or .u64 (be (ys.take k) * 256) (ys[k]?.getD 0) = be (ys.take (k + 1))) := by rw [hst, hts, ← hsn]; rfl
      clear hst hsn hts
      go_wp2
      go_round
      case rel => exact ⟨k + 1, by omega, by go_num, by rw [HF.out]⟩
      case measure => simp [intOf]; omega
    · obtain rfl : k = size := by omega
      go_wp2
      exact bodyPost_ret (v := .tuple #[.agg #[.int .u64 (be (ys.take k)), .int .i64 k, .int .i64 k], .int .i64 0]) (by simp [results, Tryz.results93, go_sem]) rfl ⟨rfl, (Kept.refl _ _).alloc _⟩

/-- The same where the bytes are too few. -/
theorem lookFixed_no (ao : Option Addr) (n cap : Nat) (size : Nat) (w : World) (hlen : n < size) :
    Calls Tryz.prog 93 #[.slice ao n cap, .int .i64 size] w fun e w' =>
      e = .returned (.tuple #[.agg #[.int .u64 0, .int .i64 0, .int .i64 0], .int .i64 1]) ∧ Kept [] w w' := by
  go_enter Tryz.func93, Tryz.ntmps93
  go_wp2
  exact bodyPost_ret (v := .tuple #[.agg #[.int .u64 0, .int .i64 0, .int .i64 0], .int .i64 1]) (by simp [results, Tryz.results93, go_sem]) rfl ⟨rfl, (Kept.refl _ _).alloc _⟩

end Go.Proofs.YtmjakhmkddgffaaGreatDoor
