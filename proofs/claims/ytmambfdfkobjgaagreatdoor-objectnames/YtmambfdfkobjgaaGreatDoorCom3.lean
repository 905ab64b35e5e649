/-
  WALK: object.readCommit.
-/
import Derived.Test.YtmambfdfkobjgaaGreatDoorCom2
namespace Go.Proofs.YtmambfdfkobjgaaGreatDoor
open Go.RowKit

/-- So many ids read. -/
def rdIs (xs : List Int) (pl f : Nat) : Nat → List (List Int) × Nat × Nat
  | 0 => ([], pl, f)
  | k + 1 => ((rdIs xs pl f k).1 ++ [idOf (takeL xs (rdIs xs pl f k).2.1 (rdIs xs pl f k).2.2 3 32 0).text], (takeL xs (rdIs xs pl f k).2.1 (rdIs xs pl f k).2.2 3 32 0).pl, (takeL xs (rdIs xs pl f k).2.1 (rdIs xs pl f k).2.2 3 32 0).f)
theorem rdIs_len (xs : List Int) (pl f : Nat) : ∀ k, (rdIs xs pl f k).1.length = k
  | 0 => rfl
  | k + 1 => by unfold rdIs; rw [List.length_append, rdIs_len xs pl f k]; rfl
theorem rdIs_ids (xs : List Int) (pl f : Nat) : ∀ k e, e ∈ (rdIs xs pl f k).1 → e.length = 32
  | 0, e, h => by simp [rdIs] at h
  | k + 1, e, h => by
    unfold rdIs at h
    rcases List.mem_append.1 h with h | h
    · exact rdIs_ids xs pl f k e h
    · rw [List.mem_singleton.1 h]
      exact idOf_len (raw32_len _ _ _)
def idRow (x : List Int) : List Value := x.map (Value.int .u8)
def halfI (l : List (List Int)) (n : Nat) : List (List Value) := (l ++ List.replicate (n - l.length) zero32).map idRow
theorem halfI_row (l : List (List Int)) (n : Nat) (hl : ∀ e, e ∈ l → e.length = 32) : ∀ r, r ∈ halfI l n → r.length = 32 := fun r hr => by
  unfold halfI at hr
  obtain ⟨e, he, rfl⟩ := List.mem_map.1 hr
  have : e.length = 32 := by
    rcases List.mem_append.1 he with h | h
    · exact hl e h
    · rw [(List.mem_replicate.1 h).2]; rfl
  simp [idRow, this]
theorem halfI_at (l : List (List Int)) (n : Nat) (h : l.length < n) : (halfI l n)[l.length]? = some (idRow zero32) := by
  unfold halfI
  rw [List.getElem?_map, List.getElem?_append_right (Nat.le_refl _), Nat.sub_self, List.getElem?_replicate, if_pos (by omega)]
  rfl
theorem halfI_put (l : List (List Int)) (n : Nat) (h : l.length < n) (e : List Int) : (halfI l n).set l.length (idRow e) = halfI (l ++ [e]) n := by
  unfold halfI
  rw [List.length_append, List.length_singleton]
  obtain ⟨m, hm⟩ : ∃ m, n - l.length = m + 1 := ⟨n - l.length - 1, by omega⟩
  rw [show n - (l.length + 1) = m by omega, hm, List.replicate_succ, ← List.map_set, List.set_append_right _ _ (Nat.le_refl _), Nat.sub_self, List.set_cons_zero]
  simp
theorem Tryz.zeroIDi : (Tryz.prog.info? 31).map (fun i => (i.zero, i.size, i.bytes)) = some (some (.agg (idRow zero32).toArray), 32, 32) := by kernel_rfl

def zeroC : ComL := ⟨zero32, [], [], 0, []⟩
theorem Tryz.builtCom (parts : List (Nat × Value)) : Tryz.prog.built 90 parts = Instr.fill (fun i => (#[(0, 32), (32, 1), (33, 1), (34, 1), (35, 1)] : Array (Nat × Nat))[i]?) (zeroC.row (.slice none 0 0)).toArray parts := by kernel_rfl
theorem built_com (id : List Int) (hi : id.length = 32) : Tryz.prog.built 90 [(0, .agg (idC id))] = some ((ComL.mk id [] [] 0 []).row (.slice none 0 0)).toArray := by
  rw [Tryz.builtCom, fill_step (fun i => (#[(0, 32), (32, 1), (33, 1), (34, 1), (35, 1)] : Array (Nat × Nat))[i]?) (zeroC.row (.slice none 0 0)).toArray 0 (.agg (idC id)) _ 0 32 rfl (idC_size hi) (by decide), fill_nil]
  have e : (Value.agg (idC id)).cells.toList = id.map (Value.int .u8) := rfl
  rw [e, setL_put _ _ _ (by rw [List.length_map, hi]; decide)]
  congr 2
  unfold putL ComL.row zeroC
  simp [zero32, hi]
theorem com_set (c : ComL) (pv : Value) (hl : c.tree.length = 32) : (∀ (v : Value) (ps : List (List Int)), (c.row pv).toArray.setIfInBounds 32 v = (({ c with parents := ps } : ComL).row v).toArray) ∧ (∀ s, (c.row pv).toArray.setIfInBounds 33 (.string (strOfNums s)) = (({ c with who := s } : ComL).row pv).toArray) ∧
    (∀ k, (c.row pv).toArray.setIfInBounds 34 (.int .u64 k) = (({ c with time := k } : ComL).row pv).toArray) ∧ (∀ s, (c.row pv).toArray.setIfInBounds 35 (.string (strOfNums s)) = (({ c with text := s } : ComL).row pv).toArray) := by
  have hm : (c.tree.map (Value.int .u8)).length = 32 := by rw [List.length_map, hl]
  refine ⟨fun k _ => ?_, fun k => ?_, fun k => ?_, fun k => ?_⟩
  all_goals
    unfold ComL.row
    rw [List.setIfInBounds_toArray, List.set_append_right _ _ (by omega), hm]
    rfl
theorem com_len (c : ComL) (pv : Value) (hl : c.tree.length = 32) : (c.row pv).toArray.size = 36 := by simp [ComL.row, hl]
theorem com_one (c : ComL) (pv : Value) (hp : pv.oneCell' = true) : (c.row pv).toArray.all (·.oneCell') = true := all_oneCell_toArray fun v hv => by
  unfold ComL.row at hv
  rcases List.mem_append.1 hv with h | h
  · exact map_oneCell _ v h
  · simp at h
    rcases h with rfl | rfl | rfl | rfl
    · exact hp
    · rfl
    · rfl
    · rfl
theorem run_store_list (w : World) (b o : Nat) (cells : List Value) (ht : w.there b o cells.length) (h1 : ∀ v, v ∈ cells → v.oneCell' = true) : (storeCells ⟨b, o, none⟩ cells).run Tryz.prog w = .ok () (w.setCells b o cells) := by
  have := run_storeCells_cells (P := Tryz.prog) b o cells 0 w (fun j hj => by simpa using (ht j hj).1) (fun j hj => by simpa using (ht j hj).2) h1
  simpa [storeCells] using this
end Go.Proofs.YtmambfdfkobjgaaGreatDoor
