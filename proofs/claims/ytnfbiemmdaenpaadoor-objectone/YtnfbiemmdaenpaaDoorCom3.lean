/-
  WALK: (object.commit).write.
  WALK: object.readCommit.
-/
import Derived.Test.YtnfbiemmdaenpaaDoorCom1
namespace Go.Proofs.YtnfbiemmdaenpaaDoor
open Go.RowKit

theorem WB.kept {w0 W W' : World} {wb B : Nat} {zs : List Int} {S : List Nat} {b : Nat} {cs : Array Value} {ty : TypeId} (h : WB w0 W wb B zs S b cs ty) (k : Kept [] W W') : WB w0 W' wb B zs S b cs ty := by
  obtain ⟨S', q, hb, hc⟩ := h
  exact ⟨S', q.kept k, hb, k.heap hc (by simp)⟩
theorem WB.keep {w0 W : World} {wb B : Nat} {zs : List Int} {S : List Nat} {b : Nat} {cs : Array Value} {ty : TypeId} (h : WB w0 W wb B zs S b cs ty) : Kept S w0 W := h.elim fun _ q => q.1.keep
/-- A commit's encoding. -/
def encC (c : ComL) : List Int := fixedB 3 1 ++ c.tree ++ varB c.parents.length ++ c.parents.flatten ++ varB c.who.length ++ c.who ++ fixedB c.time 8 ++ varB c.text.length ++ c.text
theorem flat32 : ∀ l : List (List Int), (∀ o, o ∈ l → GoodID o) → l.flatten.length = l.length * 32
  | [], _ => rfl
  | x :: r, h => by
    rw [List.flatten_cons, List.length_append, (h x (by simp)).1, flat32 r fun o ho => h o (by simp [ho]), List.length_cons]
    omega

set_option maxRecDepth 100000 in
set_option maxHeartbeats 2000000 in
theorem comWrite_any (c : ComL) (pv : Value) {w : World} {wb B : Nat} {zs : List Int} {S : List Nat} (h : WAt w wb B zs S) (hBw : B ≤ w.heap.size) (hp : IdsAt w pv c.parents) (hdp : c.parents ≠ [] → ∀ b, blkOf pv = some b → b ∉ S) (hg : c.Good) (hn8 : c.parents.length ≤ 8)
    (hz : zs.length + c.who.length + c.text.length ≤ 100000000) :
    Calls Tryd.prog 110 #[.agg (c.row pv).toArray, .pointer (some ⟨wb, 0, none⟩)] w fun e w' => e = .returned (.tuple #[]) ∧ Wrote w w' wb B (zs ++ encC c) S := by
  have HE : Hid (zs ++ encC c = (zs ++ fixedB 3 1 ++ c.tree ++ varB c.parents.length ++ c.parents.flatten ++ varB c.who.length ++ c.who ++ fixedB c.time 8 ++ varB c.text.length ++ c.text)) := by
    have : zs ++ encC c = (zs ++ fixedB 3 1 ++ c.tree ++ varB c.parents.length ++ c.parents.flatten ++ varB c.who.length ++ c.who ++ fixedB c.time 8 ++ varB c.text.length ++ c.text) := by unfold encC; simp only [List.append_assoc]
    exact this
  have v1 := varB_len (c.parents.length : Int) (by omega) (by omega)
  have v2 := varB_len (c.who.length : Int) (by omega) (by omega)
  have v3 := varB_len (c.text.length : Int) (by omega) (by omega)
  have l0 := hg.tree.1
  have lf : c.parents.flatten.length ≤ 256 := by rw [flat32 _ hg.parents]; omega
  have H0 : Hid (WB w (w.alloc (.cells (c.row pv).toArray 82)) wb B zs S w.heap.size (c.row pv).toArray 82) := WB.start h _ _
  have HTC : Hid (∀ W : World, W.heap[w.heap.size]? = some (.cells (c.row pv).toArray 82 (0, 0)) → W.rangeAt w.heap.size 0 (c.tree.map (Value.int .u8)) ∧ W.cell? ⟨w.heap.size, 32, none⟩ = some pv ∧ W.cell? ⟨w.heap.size, 33, none⟩ = some (.string (strOfNums c.who)) ∧ W.cell? ⟨w.heap.size, 34, none⟩ = some (.int .u64 c.time) ∧ W.cell? ⟨w.heap.size, 35, none⟩ = some (.string (strOfNums c.text))) := fun W hW => com_cells hg.tree.1 hW
  have hsl := fun W => slice_id w.heap.size 0 W
  have HV : Hid (∀ W, Kept S w W → IdsAt W pv c.parents) := fun W k => hp.keep k hdp
  have HG : Hid (∀ o, o ∈ c.parents → GoodID o) := hg.parents
  have C1 : Hid (∀ W, WB w W wb B zs S w.heap.size (c.row pv).toArray 82 → Calls Tryd.prog 98 #[.pointer (some ⟨wb, 0, none⟩), .int .u8 3] W fun e w' => e = .returned (.tuple #[]) ∧ WB w w' wb B (zs ++ fixedB 3 1) S w.heap.size (c.row pv).toArray 82) := fun W q => q.u8 hBw 3 (by decide) (by decide) (by omega)
  have C2 : Hid (∀ W, WB w W wb B (zs ++ fixedB 3 1) S w.heap.size (c.row pv).toArray 82 → Calls Tryd.prog 99 #[.pointer (some ⟨wb, 0, none⟩), .slice (some ⟨w.heap.size, 0, none⟩) 32 32] W fun e w' => e = .returned (.tuple #[]) ∧ WB w w' wb B (zs ++ fixedB 3 1 ++ c.tree) S w.heap.size (c.row pv).toArray 82) := fun W q => by
    have hb := range_bytes (HTC.out W q.block).1
    rw [l0] at hb
    exact q.raw hBw _ _ hb hg.tree.2 (by simp only [List.length_append, fixedB_len, l0]; omega)
  have C3 : Hid (∀ W, WB w W wb B (zs ++ fixedB 3 1 ++ c.tree) S w.heap.size (c.row pv).toArray 82 → Calls Tryd.prog 104 #[.pointer (some ⟨wb, 0, none⟩), .int .u64 c.parents.length] W fun e w' => e = .returned (.tuple #[]) ∧ WB w w' wb B (zs ++ fixedB 3 1 ++ c.tree ++ varB c.parents.length) S w.heap.size (c.row pv).toArray 82) := fun W q => q.var hBw _ (by omega) (by omega) (by simp only [List.length_append, fixedB_len, l0]; omega)
  have C5 : Hid (∀ W, WB w W wb B (zs ++ fixedB 3 1 ++ c.tree ++ varB c.parents.length ++ c.parents.flatten) S w.heap.size (c.row pv).toArray 82 → Calls Tryd.prog 105 #[.pointer (some ⟨wb, 0, none⟩), .string (strOfNums c.who)] W fun e w' => e = .returned (.tuple #[]) ∧ WB w w' wb B (zs ++ fixedB 3 1 ++ c.tree ++ varB c.parents.length ++ c.parents.flatten ++ varB c.who.length ++ c.who) S w.heap.size (c.row pv).toArray 82) := fun W q => q.text hBw _ hg.who.1 (by simp only [List.length_append, fixedB_len, l0]; omega)
  have C6 : Hid (∀ W, WB w W wb B (zs ++ fixedB 3 1 ++ c.tree ++ varB c.parents.length ++ c.parents.flatten ++ varB c.who.length ++ c.who) S w.heap.size (c.row pv).toArray 82 → Calls Tryd.prog 113 #[.pointer (some ⟨wb, 0, none⟩), .int .u64 c.time] W fun e w' => e = .returned (.tuple #[]) ∧ WB w w' wb B (zs ++ fixedB 3 1 ++ c.tree ++ varB c.parents.length ++ c.parents.flatten ++ varB c.who.length ++ c.who ++ fixedB c.time 8) S w.heap.size (c.row pv).toArray 82) := fun W q => q.u64 hBw _ (by simp only [List.length_append, fixedB_len, l0]; omega)
  have C7 : Hid (∀ W, WB w W wb B (zs ++ fixedB 3 1 ++ c.tree ++ varB c.parents.length ++ c.parents.flatten ++ varB c.who.length ++ c.who ++ fixedB c.time 8) S w.heap.size (c.row pv).toArray 82 → Calls Tryd.prog 105 #[.pointer (some ⟨wb, 0, none⟩), .string (strOfNums c.text)] W fun e w' => e = .returned (.tuple #[]) ∧ WB w w' wb B (zs ++ fixedB 3 1 ++ c.tree ++ varB c.parents.length ++ c.parents.flatten ++ varB c.who.length ++ c.who ++ fixedB c.time 8 ++ varB c.text.length ++ c.text) S w.heap.size (c.row pv).toArray 82) := fun W q => q.text hBw _ hg.text.1 (by simp only [List.length_append, fixedB_len, l0]; omega)
  have HL3 : Hid ((zs ++ fixedB 3 1 ++ c.tree ++ varB c.parents.length).length ≤ 100000100) := by
    have : (zs ++ fixedB 3 1 ++ c.tree ++ varB c.parents.length).length ≤ 100000100 := by simp only [List.length_append, fixedB_len, l0]; omega
    exact this
  have HFL : Hid (∀ k o, c.parents[k]? = some o → (c.parents.take (k + 1)).flatten = (c.parents.take k).flatten ++ o) := fun k o ho => by
    have hlt : k < c.parents.length := (List.getElem?_eq_some_iff.1 ho).1
    have he : c.parents[k] = o := (List.getElem?_eq_some_iff.1 ho).2
    rw [List.take_succ_eq_append_getElem hlt, List.flatten_append, he]
    simp
  have HLK : Hid (∀ k, (c.parents.take k).flatten.length ≤ 256) := fun k => by
    have h1 := flat32 (c.parents.take k) fun o ho => hg.parents o (List.mem_of_mem_take ho)
    rw [List.length_take] at h1
    omega
  obtain ⟨ao, cap, rfl, hcap, _, hlen, _⟩ := hp
  clear h hg v1 v2 v3 hz lf hdp
  rw [HE.out]
  clear HE
  generalize zs ++ fixedB 3 1 ++ c.tree ++ varB c.parents.length ++ c.parents.flatten ++ varB c.who.length ++ c.who ++ fixedB c.time 8 ++ varB c.text.length ++ c.text = q7 at *
  generalize zs ++ fixedB 3 1 ++ c.tree ++ varB c.parents.length ++ c.parents.flatten ++ varB c.who.length ++ c.who ++ fixedB c.time 8 = q6 at *
  generalize zs ++ fixedB 3 1 ++ c.tree ++ varB c.parents.length ++ c.parents.flatten ++ varB c.who.length ++ c.who = q5 at *
  have HQ4 : Hid ((zs ++ fixedB 3 1 ++ c.tree ++ varB c.parents.length ++ c.parents.flatten) = (zs ++ fixedB 3 1 ++ c.tree ++ varB c.parents.length) ++ (c.parents.take c.parents.length).flatten) := by rw [List.take_length]; exact rfl
  generalize zs ++ fixedB 3 1 ++ c.tree ++ varB c.parents.length ++ c.parents.flatten = q4 at *
  generalize zs ++ fixedB 3 1 ++ c.tree ++ varB c.parents.length = q3 at *
  generalize zs ++ fixedB 3 1 ++ c.tree = q2 at *
  generalize zs ++ fixedB 3 1 = q1 at *
  generalize (c.row (.slice ao c.parents.length cap)).toArray = tr at *
  generalize c.tree.map (Value.int .u8) = tt at *
  generalize strOfNums c.who = sw at *
  generalize strOfNums c.text = st at *
  generalize c.time = tm at *
  generalize c.parents = ids at *
  have hui := Tryd.underlying25
  go_enter Tryd.func110, Tryd.ntmps110
  go_wp2_with (first
    | (go_at_call 98; (with_reducible refine (C1.out _ H0.out).mono ?_); rintro e w1 ⟨rfl, hw1⟩; have H1 : Hid (WB w w1 wb B q1 S w.heap.size tr 82) := hw1; obtain ⟨a0, a1, a2, a3, a4⟩ := HTC.out w1 hw1.block; clear hw1)
    | (go_at_call 99; (with_reducible refine (C2.out _ H1.out).mono ?_); rintro e w2 ⟨rfl, hw2⟩; have H2 : Hid (WB w w2 wb B q2 S w.heap.size tr 82) := hw2; obtain ⟨b0, b1, b2, b3, b4⟩ := HTC.out w2 hw2.block; clear hw2)
    | (go_at_call 104; (with_reducible refine (C3.out _ H2.out).mono ?_); rintro e w3 ⟨rfl, hw3⟩; have H3 : Hid (WB w w3 wb B q3 S w.heap.size tr 82) := hw3; obtain ⟨c0, c1, c2, c3, c4⟩ := HTC.out w3 hw3.block; clear hw3))
  go_loopw [5, 21] (fun _ s21 wr => ∃ k : Nat, k ≤ ids.length ∧ s21 = .int .i64 k ∧ Hid (WB w wr wb B (q3 ++ (ids.take k).flatten) S w.heap.size tr 82)) (fun _ s21 _ => ids.length - (intOf s21).toNat)
  case atStart => exact ⟨0, Nat.zero_le _, rfl, by rw [List.take_zero, List.flatten_nil, List.append_nil]; exact H3⟩
  case round =>
    clear H0 H1 H2 H3 C1 C2 C3 a0 a1 a2 a3 a4 b0 b1 b2 b3 b4 c0 c1 c2 c3 c4
    obtain ⟨k, hk, rfl, HW⟩ := hrel
    by_cases hlt : k < ids.length
    · obtain ⟨o, ho⟩ : ∃ o, ids[k]? = some o := ⟨_, List.getElem?_eq_getElem hlt⟩
      have hgo := HG.out o (List.mem_of_getElem? ho)
      obtain ⟨ao', cap', he, _, _, _, hc⟩ := HV.out wr HW.out.keep
      injection he with e1 e2 e3
      subst e1 e3
      obtain ⟨b, off, rfl, hh⟩ := hc (by rintro rfl; simp at hlt)
      have hr := hh k o ho
      have hso : (Tryd.prog.info? 25).map (·.size) = some (o.map (Value.int .u8)).length := by rw [List.length_map, hgo.1]; exact Tryd.infoID
      have hsoc : (Tryd.prog.info? 25).map (·.size) = some (idC o).size := by rw [idC_size hgo.1]; exact Tryd.infoID
      have hao : (idC o).all (·.oneCell') = true := all_oneCell_toArray (map_oneCell _)
      have ho32 : (idC o).size = 32 := idC_size hgo.1
      have hoc : (o.map (Value.int .u8)).toArray = idC o := rfl
      have HWA : Hid (WB w (wr.alloc (.cells (idC o) 25)) wb B (q3 ++ (ids.take k).flatten) S w.heap.size tr 82) := HW.out.kept ((Kept.refl _ _).alloc _)
      have hsl2 := fun W => slice_id wr.heap.size 0 W
      have h1 := HL3.out
      have h2 := HLK.out k
      have HC4 : Hid (Calls Tryd.prog 99 #[.pointer (some ⟨wb, 0, none⟩), .slice (some ⟨wr.heap.size, 0, none⟩) 32 32] (wr.alloc (.cells (idC o) 25)) fun e w' => e = .returned (.tuple #[]) ∧ WB w w' wb B (q3 ++ (ids.take (k + 1)).flatten) S w.heap.size tr 82) := by
        have hb := range_bytes (range_box wr o 25)
        rw [hgo.1] at hb
        have h := HWA.out.raw hBw _ _ hb hgo.2 (by rw [List.length_append, hgo.1]; omega)
        rw [HFL.out k o ho, ← List.append_assoc]
        exact h
      clear hh hc ho hgo h1 h2
      generalize hoi : idC o = oc at *
      clear hoi
      go_wp2_with (first
        | (refine wpList_load_mid (by rfl) 25 (.tmp 23) (by rfl) b (off + k * 32) (by rfl) (o.map (Value.int .u8)) _ hr hui rfl hso ?_; rw [hoc])
        | (refine wpList_store_new (by rfl) 25 (.tmp 5) (.tmp 24) (by rfl) wr _ oc (by rfl) (by rfl) hsoc (by rw [ho32]; rfl) hao ?_)
        | (go_at_call 99; refine HC4.out.mono ?_; rintro e w5 ⟨rfl, hw5⟩; have H5 : Hid (WB w w5 wb B (q3 ++ (ids.take (k + 1)).flatten) S w.heap.size tr 82) := hw5; clear hw5))
      go_roundw
      case rel => exact ⟨k + 1, by omega, by go_num, H5⟩
      case measure => simp [intOf]; omega
    · obtain rfl : k = ids.length := by omega
      have H4 : Hid (WB w wr wb B q4 S w.heap.size tr 82) := by rw [HQ4.out]; exact HW
      obtain ⟨d0, d1, d2, d3, d4⟩ := HTC.out wr H4.out.block
      clear HW HQ4
      go_wp2_with (first
        | (go_at_call 105; (with_reducible refine (C5.out _ H4.out).mono ?_); rintro e w5 ⟨rfl, hw5⟩; have H5 : Hid (WB w w5 wb B q5 S w.heap.size tr 82) := hw5; obtain ⟨e0, e1, e2, e3, e4⟩ := HTC.out w5 hw5.block; clear hw5)
        | (go_at_call 113; (with_reducible refine (C6.out _ H5.out).mono ?_); rintro e w6 ⟨rfl, hw6⟩; have H6 : Hid (WB w w6 wb B q6 S w.heap.size tr 82) := hw6; obtain ⟨f0, f1, f2, f3, f4⟩ := HTC.out w6 hw6.block; clear hw6)
        | (go_at_call 105; (with_reducible refine (C7.out _ H6.out).mono ?_); rintro e w7 ⟨rfl, hw7⟩; have H7 : Hid (WB w w7 wb B q7 S w.heap.size tr 82) := hw7; clear hw7))
      go_end0
      exact ⟨rfl, H7.out.wrote⟩
end Go.Proofs.YtnfbiemmdaenpaaDoor

namespace Go.Proofs.YtnfbiemmdaenpaaDoor
open Go.RowKit

/-- So many ids read. -/
def rdIs (xs : List Int) (pl f : Nat) : Nat → List (List Int) × Nat × Nat
  | 0 => ([], pl, f)
  | k + 1 => ((rdIs xs pl f k).1 ++ [idOf (takeL xs (rdIs xs pl f k).2.1 (rdIs xs pl f k).2.2 3 32 0).text], (takeL xs (rdIs xs pl f k).2.1 (rdIs xs pl f k).2.2 3 32 0).pl, (takeL xs (rdIs xs pl f k).2.1 (rdIs xs pl f k).2.2 3 32 0).f)
theorem rdIs_len (xs : List Int) (pl f : Nat) : ∀ k, (rdIs xs pl f k).1.length = k
  | 0 => rfl
  | k + 1 => by unfold rdIs; rw [List.length_append, rdIs_len xs pl f k]; rfl
theorem rdIs_ids (xs : List Int) (pl f : Nat) : ∀ k e, e ∈ (rdIs xs pl f k).1 → e.length = 32
  | 0, e, h => by simp [rdIs] at h
  | k + 1, e, h => by
    unfold rdIs at h
    rcases List.mem_append.1 h with h | h
    · exact rdIs_ids xs pl f k e h
    · rw [List.mem_singleton.1 h]
      exact idOf_len (raw32_len _ _ _)
def idRow (x : List Int) : List Value := x.map (Value.int .u8)
def halfI (l : List (List Int)) (n : Nat) : List (List Value) := (l ++ List.replicate (n - l.length) zero32).map idRow
theorem halfI_row (l : List (List Int)) (n : Nat) (hl : ∀ e, e ∈ l → e.length = 32) : ∀ r, r ∈ halfI l n → r.length = 32 := fun r hr => by
  unfold halfI at hr
  obtain ⟨e, he, rfl⟩ := List.mem_map.1 hr
  have : e.length = 32 := by
    rcases List.mem_append.1 he with h | h
    · exact hl e h
    · rw [(List.mem_replicate.1 h).2]; rfl
  simp [idRow, this]
theorem halfI_at (l : List (List Int)) (n : Nat) (h : l.length < n) : (halfI l n)[l.length]? = some (idRow zero32) := by
  unfold halfI
  rw [List.getElem?_map, List.getElem?_append_right (Nat.le_refl _), Nat.sub_self, List.getElem?_replicate, if_pos (by omega)]
  rfl
theorem halfI_put (l : List (List Int)) (n : Nat) (h : l.length < n) (e : List Int) : (halfI l n).set l.length (idRow e) = halfI (l ++ [e]) n := by
  unfold halfI
  rw [List.length_append, List.length_singleton]
  obtain ⟨m, hm⟩ : ∃ m, n - l.length = m + 1 := ⟨n - l.length - 1, by omega⟩
  rw [show n - (l.length + 1) = m by omega, hm, List.replicate_succ, ← List.map_set, List.set_append_right _ _ (Nat.le_refl _), Nat.sub_self, List.set_cons_zero]
  simp
theorem Tryd.zeroIDi : (Tryd.prog.info? 25).map (fun i => (i.zero, i.size, i.bytes)) = some (some (.agg (idRow zero32).toArray), 32, 32) := by kernel_rfl

def zeroC : ComL := ⟨zero32, [], [], 0, []⟩
theorem Tryd.builtCom (parts : List (Nat × Value)) : Tryd.prog.built 82 parts = Instr.fill (fun i => (#[(0, 32), (32, 1), (33, 1), (34, 1), (35, 1)] : Array (Nat × Nat))[i]?) (zeroC.row (.slice none 0 0)).toArray parts := by kernel_rfl
theorem built_com (id : List Int) (hi : id.length = 32) : Tryd.prog.built 82 [(0, .agg (idC id))] = some ((ComL.mk id [] [] 0 []).row (.slice none 0 0)).toArray := by
  rw [Tryd.builtCom, fill_step (fun i => (#[(0, 32), (32, 1), (33, 1), (34, 1), (35, 1)] : Array (Nat × Nat))[i]?) (zeroC.row (.slice none 0 0)).toArray 0 (.agg (idC id)) _ 0 32 rfl (idC_size hi) (by decide), fill_nil]
  have e : (Value.agg (idC id)).cells.toList = id.map (Value.int .u8) := rfl
  rw [e, setL_put _ _ _ (by rw [List.length_map, hi]; decide)]
  congr 2
  unfold putL ComL.row zeroC
  simp [zero32, hi]
theorem com_set (c : ComL) (pv : Value) (hl : c.tree.length = 32) : (∀ (v : Value) (ps : List (List Int)), (c.row pv).toArray.setIfInBounds 32 v = (({ c with parents := ps } : ComL).row v).toArray) ∧ (∀ s, (c.row pv).toArray.setIfInBounds 33 (.string (strOfNums s)) = (({ c with who := s } : ComL).row pv).toArray) ∧
    (∀ k, (c.row pv).toArray.setIfInBounds 34 (.int .u64 k) = (({ c with time := k } : ComL).row pv).toArray) ∧ (∀ s, (c.row pv).toArray.setIfInBounds 35 (.string (strOfNums s)) = (({ c with text := s } : ComL).row pv).toArray) := by
  have hm : (c.tree.map (Value.int .u8)).length = 32 := by rw [List.length_map, hl]
  refine ⟨fun k _ => ?_, fun k => ?_, fun k => ?_, fun k => ?_⟩
  all_goals
    unfold ComL.row
    rw [List.setIfInBounds_toArray, List.set_append_right _ _ (by omega), hm]
    rfl
theorem com_len (c : ComL) (pv : Value) (hl : c.tree.length = 32) : (c.row pv).toArray.size = 36 := by simp [ComL.row, hl]
theorem com_one (c : ComL) (pv : Value) (hp : pv.oneCell' = true) : (c.row pv).toArray.all (·.oneCell') = true := all_oneCell_toArray fun v hv => by
  unfold ComL.row at hv
  rcases List.mem_append.1 hv with h | h
  · exact map_oneCell _ v h
  · simp at h
    rcases h with rfl | rfl | rfl | rfl
    · exact hp
    · rfl
    · rfl
    · rfl
theorem run_store_list (w : World) (b o : Nat) (cells : List Value) (ht : w.there b o cells.length) (h1 : ∀ v, v ∈ cells → v.oneCell' = true) : (storeCells ⟨b, o, none⟩ cells).run Tryd.prog w = .ok () (w.setCells b o cells) := by
  have := run_storeCells_cells (P := Tryd.prog) b o cells 0 w (fun j hj => by simpa using (ht j hj).1) (fun j hj => by simpa using (ht j hj).2) h1
  simpa [storeCells] using this
end Go.Proofs.YtnfbiemmdaenpaaDoor
