/-
  APPEND of a whole list of structs of k cells to a list of one's own.
  WALK: satchelref0.EqIDs, of two lists that tell the same; what two stores of the same ids tell.
  WALKS: Guess.number, Guess.text of satchelref3.
  WALK: object.readCommit.
-/
import Derived.Test.YtddhhjgegkkjbaaGreatDoorAppK
import Derived.Laws.AppendOwnNone
import Derived.Test.YtddhhjgegkkjbaaGreatDoorIds1
import Derived.Test.YtddhhjgegkkjbaaGreatDoorQuietId
import Derived.Test.YtddhhjgegkkjbaaGreatDoorBack0
import Derived.Test.YtddhhjgegkkjbaaGreatDoorConv
import Derived.Test.YtddhhjgegkkjbaaGreatDoorPlain
import Derived.Deep.CutRange
import Derived.Test.YtddhhjgegkkjbaaGreatDoorLk0
namespace Go.Proofs.YtddhhjgegkkjbaaGreatDoor
open Go.RowKit

theorem IdsAt.rows {w : World} {v : Value} {ids : List (List Int)} : IdsAt w v ids ↔ RowsAt w v 32 (ids.map fun x => x.map (Value.int .u8)) := by
  constructor
  · rintro ⟨ao, cap, rfl, h1, h0, h2, hc⟩
    refine ⟨ao, cap, by rw [List.length_map], by rw [List.length_map]; exact h1, h0, by rw [List.length_map]; exact h2, fun hne => ?_⟩
    obtain ⟨b, off, hb, hh⟩ := hc (by simpa using hne)
    refine ⟨b, off, hb, fun i cs hi => ?_⟩
    rw [List.getElem?_map] at hi
    obtain ⟨x, hx, rfl⟩ := Option.map_eq_some_iff.1 hi
    exact hh i x hx
  · rintro ⟨ao, cap, rfl, h1, h0, h2, hc⟩
    rw [List.length_map] at h1 h2
    refine ⟨ao, cap, by rw [List.length_map], h1, h0, h2, fun hne => ?_⟩
    obtain ⟨b, off, hb, hh⟩ := hc (by simpa using hne)
    exact ⟨b, off, hb, fun i x hx => hh i _ (by rw [List.getElem?_map, hx]; rfl)⟩
end Go.Proofs.YtddhhjgegkkjbaaGreatDoor

namespace Go.Proofs.YtddhhjgegkkjbaaGreatDoor
open Go.RowKit

theorem IdOwn.at {w : World} {B : Nat} {v : Value} {ids : List (List Int)} (h : IdOwn w B v ids) (hg : ∀ id, id ∈ ids → GoodID id) (hn : ids.length ≤ 140737488351232) : IdsAt w v ids := by
  refine IdsAt.rows.2 (ownsK_rows (B := B) (e := 36) (by decide) (fun r hr => ?_) ?_ (by rw [List.length_map]; exact hn))
  · obtain ⟨id, hid, rfl⟩ := List.mem_map.1 hr
    rw [List.length_map]
    exact (hg id hid).1
  · rw [List.length_map]
    exact h
theorem IdsAt.onK {w w' : World} {v : Value} {ids : List (List Int)} (h : IdsAt w v ids) (k : Kept [] w w') : IdsAt w' v ids := h.keep k (fun _ _ _ => by simp)
/-- Two sorted lists of the same ids are one. -/
theorem sorted_uniq : ∀ {L M : List (List Int)}, SortedIds L → SortedIds M → (∀ x, x ∈ L ↔ x ∈ M) → L = M
  | [], [], _, _, _ => rfl
  | [], y :: M, _, _, h => absurd ((h y).2 (by simp)) (by simp)
  | x :: L, [], _, _, h => absurd ((h x).1 (by simp)) (by simp)
  | x :: L, y :: M, hL, hM, h => by
    have hL' := List.pairwise_cons.1 hL
    have hM' := List.pairwise_cons.1 hM
    have e : x = y := by
      rcases List.mem_cons.1 ((h x).1 (by simp)) with e | hx
      · exact e
      · rcases List.mem_cons.1 ((h y).2 (by simp)) with e | hy
        · exact e.symm
        · have h1 := hM'.1 x hx
          have h2 := hL'.1 y hy
          have h3 := cmpB_trans _ _ _ h1 h2
          exact absurd h3 (cmpB_self y)
    subst e
    have t : L = M := sorted_uniq hL'.2 hM'.2 (fun z => by
      have hz := h z
      constructor
      · intro hzl
        rcases List.mem_cons.1 (hz.1 (List.mem_cons_of_mem _ hzl)) with e | q
        · subst e
          exact absurd (hL'.1 _ hzl) (cmpB_self _)
        · exact q
      · intro hzm
        rcases List.mem_cons.1 (hz.2 (List.mem_cons_of_mem _ hzm)) with e | q
        · subst e
          exact absurd (hM'.1 _ hzm) (cmpB_self _)
        · exact q)
    rw [t]
theorem IdsOf.uniq {D D2 : DataW Unit} {L M : List (List Int)} (h : IdsOf D L) (h2 : IdsOf D2 M) (e : ∀ kl, Maps.has D2 kl = Maps.has D kl) : L = M :=
  sorted_uniq h.sorted h2.sorted (fun x => by
    constructor
    · intro hx
      have := (h.mem x hx).2
      rw [← e] at this
      obtain ⟨y, hy, ey⟩ := h2.all _ this
      rw [idKey_inj (h.mem x hx).1 (h2.mem y hy).1 ey]
      exact hy
    · intro hx
      have := (h2.mem x hx).2
      rw [e] at this
      obtain ⟨y, hy, ey⟩ := h.all _ this
      rw [idKey_inj (h2.mem x hx).1 (h.mem y hy).1 ey]
      exact hy)
set_option maxRecDepth 100000 in
set_option maxHeartbeats 2000000 in
theorem EqIDs_same (v1 v2 : Value) (ks : List (List Int)) (w : World) (h1 : IdsAt w v1 ks) (h2 : IdsAt w v2 ks) (hg : ∀ k, k ∈ ks → k.length = 32) :
    Calls Tryz.prog 13 #[v1, v2] w fun e w' => e = .returned (.bool true) ∧ Kept [] w w' := by
  have HN1 : Hid (∀ W, Kept [] w W → IdsAt W v1 ks) := fun W k => h1.onK k
  have HN2 : Hid (∀ W, Kept [] w W → IdsAt W v2 ks) := fun W k => h2.onK k
  have HG : Hid (∀ k, k ∈ ks → k.length = 32) := hg
  obtain ⟨a1, c1, rfl, hc1, _, hl1, _⟩ := h1
  obtain ⟨a2, c2, rfl, hc2, _, hl2, _⟩ := h2
  have hue := Tryz.underlying36
  clear hg
  go_enter Tryz.func13, Tryz.ntmps13
  go_wp2
  go_loopw [5] (fun s5 wr => ∃ k : Nat, k ≤ ks.length ∧ s5 = .int .i64 k ∧ Hid (Kept [] w wr)) (fun s5 _ => ks.length - (intOf s5).toNat)
  case atStart => exact ⟨0, Nat.zero_le _, rfl, Kept.refl _ _⟩
  case round =>
    obtain ⟨k, hk, rfl, HK⟩ := hrel
    by_cases hlt : k < ks.length
    · obtain ⟨x, hx⟩ : ∃ x, ks[k]? = some x := ⟨_, List.getElem?_eq_getElem hlt⟩
      have hgx := HG.out x (List.mem_of_getElem? hx)
      obtain ⟨ao', cap', he, _, _, _, hc⟩ := HN1.out wr HK.out
      injection he with e1 e2 e3
      subst e1 e3
      obtain ⟨b1', off1, rfl, hh1⟩ := hc (by intro e; rw [e] at hlt; simp at hlt)
      obtain ⟨ao', cap', he, _, _, _, hc⟩ := HN2.out wr HK.out
      injection he with e1 e2 e3
      subst e1 e3
      obtain ⟨b2', off2, rfl, hh2⟩ := hc (by intro e; rw [e] at hlt; simp at hlt)
      have hso : (Tryz.prog.info? 36).map (·.size) = some (x.map (Value.int .u8)).length := by rw [List.length_map, hgx]; exact Tryz.infoID
      have heqf : ∀ W, (Op.equalIn 10000 36 (.agg (x.map (Value.int .u8)).toArray) (.agg (x.map (Value.int .u8)).toArray)).run Tryz.prog W = .ok true W := fun W => by
        have h := idEq x x W hgx hgx
        rw [decide_eq_true rfl] at h
        exact h
      have HR1 : Hid (∀ W, Kept [] wr W → W.rangeAt b1' (off1 + k * 32) (x.map (Value.int .u8))) := fun W hW => range_kept (hh1 k x hx) hW (by simp)
      have HR2 : Hid (∀ W, Kept [] wr W → W.rangeAt b2' (off2 + k * 32) (x.map (Value.int .u8))) := fun W hW => range_kept (hh2 k x hx) hW (by simp)
      have HKK : Hid (∀ W, Kept [] wr W → Kept [] w W) := fun W hW => HK.out.then hW
      clear hh1 hh2 hc hx hgx
      generalize x.map (Value.int .u8) = xr at *
      go_wp2_with fail
      refine region_quiet (Kept [] wr) (by kernel_rfl) (by kernel_rfl) (Kept.refl [] wr).drew ?_
      refine quiet_move (by rfl) (.tmp 0) rfl (.slice (some ⟨b1', off1, none⟩) ks.length c1) rfl ?_
      simp only [Act.put, List.setIfInBounds_toArray, List.set_cons_zero, List.set_cons_succ]
      refine quiet_move (by rfl) (.tmp 5) rfl (.int .i64 k) rfl ?_
      simp only [Act.put, List.setIfInBounds_toArray, List.set_cons_zero, List.set_cons_succ]
      refine quiet_val (by rfl) (.pointer (some ⟨b1', off1 + k * 32, none⟩)) (fun W => by go_simp) ?_
      simp only [Act.put, List.setIfInBounds_toArray, List.set_cons_zero, List.set_cons_succ]
      refine quiet_row (by rfl) _ _ rfl b1' (off1 + k * 32) rfl xr _ HR1.out hue rfl hso ?_
      simp only [Act.put, List.setIfInBounds_toArray, List.set_cons_zero, List.set_cons_succ]
      refine quiet_move (by rfl) (.tmp 1) rfl (.slice (some ⟨b2', off2, none⟩) ks.length c2) rfl ?_
      simp only [Act.put, List.setIfInBounds_toArray, List.set_cons_zero, List.set_cons_succ]
      refine quiet_move (by rfl) (.tmp 5) rfl (.int .i64 k) rfl ?_
      simp only [Act.put, List.setIfInBounds_toArray, List.set_cons_zero, List.set_cons_succ]
      refine quiet_val (by rfl) (.pointer (some ⟨b2', off2 + k * 32, none⟩)) (fun W => by go_simp) ?_
      simp only [Act.put, List.setIfInBounds_toArray, List.set_cons_zero, List.set_cons_succ]
      refine quiet_row (by rfl) _ _ rfl b2' (off2 + k * 32) rfl xr _ HR2.out hue rfl hso ?_
      simp only [Act.put, List.setIfInBounds_toArray, List.set_cons_zero, List.set_cons_succ]
      refine quiet_neq (by rfl) (.tmp 20) (.tmp 24) _ rfl _ _ rfl rfl true heqf ?_
      simp only [Act.put, List.setIfInBounds_toArray, List.set_cons_zero, List.set_cons_succ]
      refine wpQuiet_nil fun w3 hk3 => ?_
      have HK3 : Hid (Kept [] w w3) := HKK.out w3 hk3
      clear hk3 HR1 HR2 HKK
      go_wp2
      go_roundw
      case rel => exact ⟨k + 1, by omega, by go_num, HK3⟩
      case measure => simp [intOf]; omega
    · have tE : decide ((k : Int) < (ks.length : Int)) = false := decide_eq_false (by omega)
      have tE2 : ¬ k < ks.length := hlt
      go_wp2
      go_ret
      exact ⟨rfl, HK.out⟩
end Go.Proofs.YtddhhjgegkkjbaaGreatDoor

namespace Go.Proofs.YtddhhjgegkkjbaaGreatDoor
open Go.RowKit

/-- A number guessed: it, and how many bytes were asked for. -/
def numG (xs : List Int) (p : Nat) : Int × Nat :=
  if xAt xs p < 128 then (xAt xs p % 128, 1)
  else if xAt xs (p + 1) < 128 then (xAt xs p % 128 + 128 * (xAt xs (p + 1) % 128), 2)
  else (xAt xs p % 128 + 128 * (xAt xs (p + 1) % 128) + 16384 * (xAt xs (p + 2) % 128), 3)
/-- A text guessed: where it begins, where it ends. -/
def txtP (xs : List Int) (p : Nat) : Nat := plus xs p (numG xs p).2
def txtN (xs : List Int) (p : Nat) : Nat := min (numG xs p).1.toNat (xs.length - txtP xs p)
def txtG (xs : List Int) (p : Nat) : List Int := (xs.drop (txtP xs p)).take (txtN xs p)
def txtE (xs : List Int) (p : Nat) : Nat := txtP xs p + txtN xs p
theorem txtG_len (xs : List Int) (p : Nat) : (txtG xs p).length = txtN xs p := by
  unfold txtG
  rw [List.length_take, List.length_drop]
  unfold txtN
  omega

end Go.Proofs.YtddhhjgegkkjbaaGreatDoor

namespace Go.Proofs.YtddhhjgegkkjbaaGreatDoor
open Go.RowKit

/-- So many ids read. -/
def rdIs (xs : List Int) (pl f : Nat) : Nat → List (List Int) × Nat × Nat
  | 0 => ([], pl, f)
  | k + 1 => ((rdIs xs pl f k).1 ++ [idOf (takeL xs (rdIs xs pl f k).2.1 (rdIs xs pl f k).2.2 3 32 0).text], (takeL xs (rdIs xs pl f k).2.1 (rdIs xs pl f k).2.2 3 32 0).pl, (takeL xs (rdIs xs pl f k).2.1 (rdIs xs pl f k).2.2 3 32 0).f)
theorem rdIs_len (xs : List Int) (pl f : Nat) : ∀ k, (rdIs xs pl f k).1.length = k
  | 0 => rfl
  | k + 1 => by unfold rdIs; rw [List.length_append, rdIs_len xs pl f k]; rfl
theorem rdIs_ids (xs : List Int) (pl f : Nat) : ∀ k e, e ∈ (rdIs xs pl f k).1 → e.length = 32
  | 0, e, h => by simp [rdIs] at h
  | k + 1, e, h => by
    unfold rdIs at h
    rcases List.mem_append.1 h with h | h
    · exact rdIs_ids xs pl f k e h
    · rw [List.mem_singleton.1 h]
      exact idOf_len (raw32_len _ _ _)
def idRow (x : List Int) : List Value := x.map (Value.int .u8)
def halfI (l : List (List Int)) (n : Nat) : List (List Value) := (l ++ List.replicate (n - l.length) zero32).map idRow
theorem halfI_row (l : List (List Int)) (n : Nat) (hl : ∀ e, e ∈ l → e.length = 32) : ∀ r, r ∈ halfI l n → r.length = 32 := fun r hr => by
  unfold halfI at hr
  obtain ⟨e, he, rfl⟩ := List.mem_map.1 hr
  have : e.length = 32 := by
    rcases List.mem_append.1 he with h | h
    · exact hl e h
    · rw [(List.mem_replicate.1 h).2]; rfl
  simp [idRow, this]
theorem halfI_at (l : List (List Int)) (n : Nat) (h : l.length < n) : (halfI l n)[l.length]? = some (idRow zero32) := by
  unfold halfI
  rw [List.getElem?_map, List.getElem?_append_right (Nat.le_refl _), Nat.sub_self, List.getElem?_replicate, if_pos (by omega)]
  rfl
theorem halfI_put (l : List (List Int)) (n : Nat) (h : l.length < n) (e : List Int) : (halfI l n).set l.length (idRow e) = halfI (l ++ [e]) n := by
  unfold halfI
  rw [List.length_append, List.length_singleton]
  obtain ⟨m, hm⟩ : ∃ m, n - l.length = m + 1 := ⟨n - l.length - 1, by omega⟩
  rw [show n - (l.length + 1) = m by omega, hm, List.replicate_succ, ← List.map_set, List.set_append_right _ _ (Nat.le_refl _), Nat.sub_self, List.set_cons_zero]
  simp
theorem Tryz.zeroIDi : (Tryz.prog.info? 36).map (fun i => (i.zero, i.size, i.bytes)) = some (some (.agg (idRow zero32).toArray), 32, 32) := by kernel_rfl

def zeroC : ComL := ⟨zero32, [], [], 0, []⟩
theorem Tryz.builtCom (parts : List (Nat × Value)) : Tryz.prog.built 102 parts = Instr.fill (fun i => (#[(0, 32), (32, 1), (33, 1), (34, 1), (35, 1)] : Array (Nat × Nat))[i]?) (zeroC.row (.slice none 0 0)).toArray parts := by kernel_rfl
theorem built_com (id : List Int) (hi : id.length = 32) : Tryz.prog.built 102 [(0, .agg (idC id))] = some ((ComL.mk id [] [] 0 []).row (.slice none 0 0)).toArray := by
  rw [Tryz.builtCom, fill_step (fun i => (#[(0, 32), (32, 1), (33, 1), (34, 1), (35, 1)] : Array (Nat × Nat))[i]?) (zeroC.row (.slice none 0 0)).toArray 0 (.agg (idC id)) _ 0 32 rfl (idC_size hi) (by decide), fill_nil]
  have e : (Value.agg (idC id)).cells.toList = id.map (Value.int .u8) := rfl
  rw [e, setL_put _ _ _ (by rw [List.length_map, hi]; decide)]
  congr 2
  unfold putL ComL.row zeroC
  simp [zero32, hi]
theorem com_set (c : ComL) (pv : Value) (hl : c.tree.length = 32) : (∀ (v : Value) (ps : List (List Int)), (c.row pv).toArray.setIfInBounds 32 v = (({ c with parents := ps } : ComL).row v).toArray) ∧ (∀ s, (c.row pv).toArray.setIfInBounds 33 (.string (strOfNums s)) = (({ c with who := s } : ComL).row pv).toArray) ∧
    (∀ k, (c.row pv).toArray.setIfInBounds 34 (.int .u64 k) = (({ c with time := k } : ComL).row pv).toArray) ∧ (∀ s, (c.row pv).toArray.setIfInBounds 35 (.string (strOfNums s)) = (({ c with text := s } : ComL).row pv).toArray) := by
  have hm : (c.tree.map (Value.int .u8)).length = 32 := by rw [List.length_map, hl]
  refine ⟨fun k _ => ?_, fun k => ?_, fun k => ?_, fun k => ?_⟩
  all_goals
    unfold ComL.row
    rw [List.setIfInBounds_toArray, List.set_append_right _ _ (by omega), hm]
    rfl
theorem com_len (c : ComL) (pv : Value) (hl : c.tree.length = 32) : (c.row pv).toArray.size = 36 := by simp [ComL.row, hl]
theorem com_one (c : ComL) (pv : Value) (hp : pv.oneCell' = true) : (c.row pv).toArray.all (·.oneCell') = true := all_oneCell_toArray fun v hv => by
  unfold ComL.row at hv
  rcases List.mem_append.1 hv with h | h
  · exact map_oneCell _ v h
  · simp at h
    rcases h with rfl | rfl | rfl | rfl
    · exact hp
    · rfl
    · rfl
    · rfl
theorem run_store_list (w : World) (b o : Nat) (cells : List Value) (ht : w.there b o cells.length) (h1 : ∀ v, v ∈ cells → v.oneCell' = true) : (storeCells ⟨b, o, none⟩ cells).run Tryz.prog w = .ok () (w.setCells b o cells) := by
  have := run_storeCells_cells (P := Tryz.prog) b o cells 0 w (fun j hj => by simpa using (ht j hj).1) (fun j hj => by simpa using (ht j hj).2) h1
  simpa [storeCells] using this
end Go.Proofs.YtddhhjgegkkjbaaGreatDoor
