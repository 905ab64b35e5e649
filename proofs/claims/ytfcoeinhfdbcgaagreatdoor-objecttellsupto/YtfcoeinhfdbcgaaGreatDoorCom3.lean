/-
  Links: a list of them that one owns and appends to; WALK: (object.commit).children.
  WALK: object.readCommit.
-/
import Derived.Test.YtfcoeinhfdbcgaaGreatDoorCom0
import Derived.Test.YtfcoeinhfdbcgaaGreatDoorCom2
namespace Go.Proofs.YtfcoeinhfdbcgaaGreatDoor
open Go.RowKit

theorem wpList_append_k {ops : Array Oper} {rest : List Oper} {o : Oper} {a : Act} {w : World} {Q : Exit → Act → World → Prop} (hgd : o.guard = none) (s x : Operand) (T e : TypeId) (z : Value) (k bytes : Nat)
    (hT : Tryz.prog.underlying T = some (.slice e)) (hinfo : (Tryz.prog.info? e).map (fun i => (i.zero, i.size, i.bytes)) = some (some z, k, bytes)) (hzk : z.cells.size = k) (hk : 0 < k)
    (ho : o.op = .call { callee := .builtin .append, args := #[s, x], argTypes := #[T, T] }) {B : Nat} {v : Value} {n : Nat} {xs : List Value} (hs : a.eval s = v) (hown : w.ownsRow B e k v n xs)
    {q : Nat} {us : List Value} (hx : a.eval x = .slice (some ⟨q, 0, none⟩) 1 1) (hul : us.length = k) (hc : w.rangeAt q 0 us) (hu : ∀ u, u ∈ us → u.oneCell' = true) (hl : n ≤ 1000000) (hb : bytes ≤ 1000) (hB : B ≤ w.heap.size)
    (h : ∀ v' w', w'.ownsRow B e k v' (n + 1) (xs ++ us) → Kept v.ownBlock.toList w w' → (v'.ownBlock = v.ownBlock ∨ v'.ownBlock = some w.heap.size) → wpList Tryz.prog ops Q rest (a.put o.dst v') w') : wpList Tryz.prog ops Q (o :: rest) a w := by
  refine wpList_plain hgd fun K hK => ?_
  have h0 := step_append_k (ops := ops) (K := K) (Q := Q) (E := True) hgd s x T e z k bytes hT hinfo hzk hk ho hs hown hx hul hc hu hl hb hB (fun v' w' a1 a2 a3 => hK _ _ (h v' w' a1 a2 a3))
  rw [if_pos (by simp [Region.wanted, hgd])] at h0
  exact h0
theorem owns_form {w : World} {B : Nat} {e : TypeId} {k : Nat} {v : Value} {n : Nat} {xs : List Value} (h : w.ownsRow B e k v n xs) : ∃ ao cap, v = .slice ao n cap := by
  obtain ⟨_, ⟨rfl, rfl⟩ | ⟨g, cap, _, rfl, _⟩⟩ := h
  · exact ⟨none, 0, rfl⟩
  · exact ⟨_, cap, rfl⟩

/-- A list of links in a block of one's own. -/
def LkOwn (w : World) (B : Nat) (v : Value) (ks : List LinkL) : Prop := w.ownsRow B 52 33 v ks.length (ks.map LinkL.row).flatten
theorem LinkL.row_len {l : LinkL} (h : l.id.length = 32) : l.row.length = 33 := by simp [LinkL.row, h]
theorem LinkL.one (l : LinkL) : ∀ v, v ∈ l.row → v.oneCell' = true := fun v hv => by
  unfold LinkL.row at hv
  rcases List.mem_append.1 hv with h | h
  · exact map_oneCell _ v h
  · rw [List.mem_singleton.1 h]; rfl
theorem LkOwn.nil (w : World) (B : Nat) : LkOwn w B (.slice none 0 0) [] := ⟨rfl, Or.inl ⟨rfl, rfl⟩⟩
theorem LkOwn.push {w : World} {B : Nat} {v : Value} {ks : List LinkL} {k : LinkL} (h : w.ownsRow B 52 33 v (ks.length + 1) ((ks.map LinkL.row).flatten ++ k.row)) : LkOwn w B v (ks ++ [k]) := by
  unfold LkOwn
  rw [List.length_append, List.map_append, List.flatten_append, List.map_singleton, List.flatten_singleton]
  exact h
theorem LkOwn.first {w : World} {B : Nat} (hB : B ≤ w.heap.size) (k : LinkL) (hk : k.id.length = 32) : LkOwn (w.alloc (.cells k.row.toArray 52)) B (.slice (some ⟨w.heap.size, 0, none⟩) 1 1) [k] := by
  refine ⟨by simp [LinkL.row, hk], Or.inr ⟨w.heap.size, 1, k.row.toArray, rfl, hB, heap_alloc_new w _, Nat.le_refl _, by decide, by rw [List.size_toArray, LinkL.row_len hk], ?_⟩⟩
  simp [LinkL.row]
  exact List.take_of_length_le (by simp [hk])
theorem LkOwn.rows {w : World} {B : Nat} {v : Value} {ks : List LinkL} (h : LkOwn w B v ks) (hg : ∀ k, k ∈ ks → k.id.length = 32) (hn : ks.length ≤ 1000000) : RowsAt w v 33 (ks.map LinkL.row) := by
  refine ownsK_rows (by decide) (fun r hr => ?_) (by rw [List.length_map]; exact h) (by rw [List.length_map]; omega)
  obtain ⟨k, hk, rfl⟩ := List.mem_map.1 hr
  exact LinkL.row_len (hg k hk)

/-- What a commit names. -/
def linksC (c : ComL) : List LinkL := LinkL.mk c.tree 2 :: c.parents.map fun p => LinkL.mk p 3

set_option maxRecDepth 100000 in
set_option maxHeartbeats 2000000 in
theorem comChildren_any (c : ComL) (pv : Value) (w : World) (hp : IdsAt w pv c.parents) (hg : c.Good) (hn : c.parents.length ≤ 1000) :
    Calls Tryz.prog 127 #[.agg (c.row pv).toArray] w fun e w' => ∃ v, e = .returned v ∧ LkOwn w' (w.heap.size + 1) v (linksC c) ∧ Kept [] w w' := by
  have HTC : Hid ((w.alloc (.cells (c.row pv).toArray 90)).rangeAt w.heap.size 0 (c.tree.map (Value.int .u8)) ∧ ∀ W, Kept [] (w.alloc (.cells (c.row pv).toArray 90)) W → W.cell? ⟨w.heap.size, 32, none⟩ = some pv) := by
    obtain ⟨a0, a1, _⟩ := com_cells hg.tree.1 (heap_alloc_new w (.cells (c.row pv).toArray 90))
    exact ⟨a0, fun W hW => hW.cell a1 (by simp)⟩
  obtain ⟨a0, a1⟩ := HTC.out
  have hbl := built_link c.tree hg.tree.1 2
  have hsi : (Tryz.prog.info? 29).map (·.size) = some (c.tree.map (Value.int .u8)).length := by rw [List.length_map, hg.tree.1]; exact Tryz.infoID
  have hmid : (c.tree.map (Value.int .u8)).toArray = idC c.tree := rfl
  have hl := hg.tree.1
  have kA : Kept [] w (w.alloc (.cells (c.row pv).toArray 90)) := (Kept.refl _ _).alloc _
  have kB : Kept [] (w.alloc (.cells (c.row pv).toArray 90)) ((w.alloc (.cells (c.row pv).toArray 90)).alloc (.cells (LinkL.mk c.tree 2).row.toArray 52)) := (Kept.refl _ _).alloc _
  have a2 := a1 _ kB
  have HV : Hid (∀ W, Kept [] w W → IdsAt W pv c.parents) := fun W k => hp.keep k (fun _ _ _ => by simp)
  have HG : Hid (∀ o, o ∈ c.parents → GoodID o) := hg.parents
  have HS : Hid (LkOwn ((w.alloc (.cells (c.row pv).toArray 90)).alloc (.cells (LinkL.mk c.tree 2).row.toArray 52)) (w.heap.size + 1) (.slice (some ⟨w.heap.size + 1, 0, none⟩) 1 1) [LinkL.mk c.tree 2]) := by
    have h := LkOwn.first (w := w.alloc (.cells (c.row pv).toArray 90)) (B := w.heap.size + 1) (by simp) (LinkL.mk c.tree 2) hl
    rw [World.size_alloc] at h
    exact h
  have HK0 : Hid (Kept [] w ((w.alloc (.cells (c.row pv).toArray 90)).alloc (.cells (LinkL.mk c.tree 2).row.toArray 52))) := kA.trans kB (by simp)
  have HLC : Hid (linksC c = LinkL.mk c.tree 2 :: c.parents.map fun p => LinkL.mk p 3) := rfl
  generalize linksC c = lks at *
  obtain ⟨ao, cap, rfl, hcap, _, hlen, _⟩ := hp
  have hui := Tryz.underlying29
  clear a1 HTC kA kB hg
  generalize (c.row (.slice ao c.parents.length cap)).toArray = tr at *
  generalize c.parents = ids at *
  go_enter Tryz.func127, Tryz.ntmps127
  go_wp2_with (first
    | (refine wpList_load_mid (by rfl) 29 (.tmp 6) (by rfl) w.heap.size 0 (by rfl) (c.tree.map (Value.int .u8)) _ a0 hui rfl hsi ?_; rw [hmid])
    | (refine wpList_build_some (by rfl) 52 _ (by rfl) (LinkL.mk c.tree 2).row.toArray (by simp; exact hbl) ?_)
    | (refine wpList_build_link1 (by rfl) (.tmp 8) (by rfl) (LinkL.mk c.tree 2) hl (by rfl) ?_))
  go_loopw [3, 5, 13] (fun s3 _ s13 wr => ∃ k : Nat, k ≤ ids.length ∧ s13 = .int .i64 k ∧ Hid (LkOwn wr (w.heap.size + 1) s3 (LinkL.mk c.tree 2 :: (ids.take k).map fun p => LinkL.mk p 3)) ∧ Hid (Kept [] w wr)) (fun _ _ s13 _ => ids.length - (intOf s13).toNat)
  case atStart => exact ⟨0, Nat.zero_le _, rfl, by simpa using HS, HK0⟩
  case round =>
    clear HS HK0 a0 a2 hbl hsi hmid
    obtain ⟨k, hk, rfl, HL, HK⟩ := hrel
    obtain ⟨ao3, cap3, hv3⟩ := owns_form HL.out
    have hln : (LinkL.mk c.tree 2 :: (ids.take k).map fun p => LinkL.mk p 3).length = k + 1 := by simp; omega
    rw [hln] at hv3
    subst hv3
    by_cases hlt : k < ids.length
    · obtain ⟨o, ho⟩ : ∃ o, ids[k]? = some o := ⟨_, List.getElem?_eq_getElem hlt⟩
      have hgo := HG.out o (List.mem_of_getElem? ho)
      obtain ⟨ao', cap', he, _, _, _, hc⟩ := HV.out wr HK.out
      injection he with e1 e2 e3
      subst e1 e3
      obtain ⟨b, off, rfl, hh⟩ := hc (by rintro rfl; simp at hlt)
      have hr := hh k o ho
      have hso : (Tryz.prog.info? 29).map (·.size) = some (o.map (Value.int .u8)).length := by rw [List.length_map, hgo.1]; exact Tryz.infoID
      have hsoc : (Tryz.prog.info? 29).map (·.size) = some (idC o).size := by rw [idC_size hgo.1]; exact Tryz.infoID
      have hao : (idC o).all (·.oneCell') = true := all_oneCell_toArray (map_oneCell _)
      have ho32 : (idC o).size = 32 := idC_size hgo.1
      have hoc : (o.map (Value.int .u8)).toArray = idC o := rfl
      have hbx := range_box wr o 29
      have hbo := built_link o hgo.1 3
      have hlo := hgo.1
      have k1 : Kept [] wr ((wr.alloc (.cells (idC o) 29)).alloc (.cells (LinkL.mk o 3).row.toArray 52)) := ((Kept.refl _ _).alloc _).alloc _
      have rng2 : ((wr.alloc (.cells (idC o) 29)).alloc (.cells (LinkL.mk o 3).row.toArray 52)).rangeAt (wr.heap.size + 1) 0 (LinkL.mk o 3).row := by
        have h := row_range (heap_alloc_new (wr.alloc (.cells (idC o) 29)) (.cells (LinkL.mk o 3).row.toArray 52))
        rw [World.size_alloc] at h
        exact h
      have own2 : ((wr.alloc (.cells (idC o) 29)).alloc (.cells (LinkL.mk o 3).row.toArray 52)).ownsRow (w.heap.size + 1) 52 33 (.slice ao3 (k + 1) cap3) (k + 1) ((LinkL.mk c.tree 2 :: (ids.take k).map fun p => LinkL.mk p 3).map LinkL.row).flatten := by
        have h := HL.out
        unfold LkOwn at h
        rw [hln] at h
        exact ownsK_on h k1 (fun _ _ => by simp)
      have hk6 : k + 1 ≤ 1000000 := by omega
      have hB2 : w.heap.size + 1 ≤ ((wr.alloc (.cells (idC o) 29)).alloc (.cells (LinkL.mk o 3).row.toArray 52)).heap.size := by
        have := HK.out.size
        rw [World.size_alloc, World.size_alloc]
        omega
      have hll : (LinkL.mk o 3).row.length = 33 := LinkL.row_len hlo
      have hone := LinkL.one (LinkL.mk o 3)
      have HN : Hid (∀ v' w', w'.ownsRow (w.heap.size + 1) 52 33 v' (k + 1 + 1) (((LinkL.mk c.tree 2 :: (ids.take k).map fun p => LinkL.mk p 3).map LinkL.row).flatten ++ (LinkL.mk o 3).row) → Kept (Value.slice ao3 (k + 1) cap3).ownBlock.toList ((wr.alloc (.cells (idC o) 29)).alloc (.cells (LinkL.mk o 3).row.toArray 52)) w' → LkOwn w' (w.heap.size + 1) v' (LinkL.mk c.tree 2 :: (ids.take (k + 1)).map fun p => LinkL.mk p 3) ∧ Kept [] w w') := fun v' w' q1 q2 => by
        rw [← hln] at q1
        have h := LkOwn.push q1
        have ho' : ids[k] = o := (List.getElem?_eq_some_iff.1 ho).2
        refine ⟨?_, ?_⟩
        · rw [List.take_succ_eq_append_getElem hlt, List.map_append, ho']
          exact h
        · have lo := fun g hg => (World.ownsRow.lt own2 g hg).1
          refine (HK.out.trans k1 (by simp)).trans q2 fun g hg => Or.inr ?_
          have := lo g (by simpa using hg)
          omega
      clear hh hc ho hgo k1 hln HL
      generalize ((LinkL.mk c.tree 2 :: (ids.take k).map fun p => LinkL.mk p 3).map LinkL.row).flatten = ls at *
      go_wp2_with (first
        | (refine wpList_load_mid (by rfl) 29 (.tmp 15) (by rfl) b (off + k * 32) (by rfl) (o.map (Value.int .u8)) _ hr hui rfl hso ?_; rw [hoc])
        | (refine wpList_store_new (by rfl) 29 (.tmp 5) (.tmp 16) (by rfl) wr _ (idC o) (by rfl) (by rfl) hsoc (by rw [ho32]; rfl) hao ?_)
        | (refine wpList_load_mid (by rfl) 29 (.tmp 5) (by rfl) wr.heap.size 0 (by rfl) (o.map (Value.int .u8)) _ hbx hui rfl hso ?_; rw [hoc])
        | (refine wpList_build_some (by rfl) 52 _ (by rfl) (LinkL.mk o 3).row.toArray (by simp; exact hbo) ?_)
        | (refine wpList_build_link1 (by rfl) (.tmp 19) (by rfl) (LinkL.mk o 3) hlo (by rfl) ?_)
        | (at_builtin; refine wpList_append_k (by rfl) (.tmp 17) (.tmp 20) 47 52 (.agg zeroK.row.toArray) 33 40 Tryz.underlying47 Tryz.zeroLink rfl (by decide) (by rfl) (v := .slice ao3 (k + 1) cap3) (by rfl) own2 (q := wr.heap.size + 1) (us := (LinkL.mk o 3).row) (by simp; rfl) hll rng2 hone hk6 (by decide) hB2 ?_; intro v5 w5 h5 k5 b5
           obtain ⟨ao5, cap5, rfl⟩ := owns_form h5
           obtain ⟨HL5, HK5⟩ := HN.out _ w5 h5 k5
           clear h5 k5 b5))
      go_roundw
      case rel => exact ⟨k + 1, by omega, by go_num, HL5, HK5⟩
      case measure => simp [intOf]; omega
    · obtain rfl : k = ids.length := by omega
      have HR : Hid (LkOwn wr (w.heap.size + 1) (.slice ao3 (ids.length + 1) cap3) lks) := by
        have h := HL.out
        rw [List.take_length] at h
        rw [HLC.out]
        exact h
      clear HL HLC
      go_wp2
      go_ret
      exact ⟨_, rfl, HR.out, HK.out⟩
end Go.Proofs.YtfcoeinhfdbcgaaGreatDoor

namespace Go.Proofs.YtfcoeinhfdbcgaaGreatDoor
open Go.RowKit

/-- So many ids read. -/
def rdIs (xs : List Int) (pl f : Nat) : Nat → List (List Int) × Nat × Nat
  | 0 => ([], pl, f)
  | k + 1 => ((rdIs xs pl f k).1 ++ [idOf (takeL xs (rdIs xs pl f k).2.1 (rdIs xs pl f k).2.2 3 32 0).text], (takeL xs (rdIs xs pl f k).2.1 (rdIs xs pl f k).2.2 3 32 0).pl, (takeL xs (rdIs xs pl f k).2.1 (rdIs xs pl f k).2.2 3 32 0).f)
theorem rdIs_len (xs : List Int) (pl f : Nat) : ∀ k, (rdIs xs pl f k).1.length = k
  | 0 => rfl
  | k + 1 => by unfold rdIs; rw [List.length_append, rdIs_len xs pl f k]; rfl
theorem rdIs_ids (xs : List Int) (pl f : Nat) : ∀ k e, e ∈ (rdIs xs pl f k).1 → e.length = 32
  | 0, e, h => by simp [rdIs] at h
  | k + 1, e, h => by
    unfold rdIs at h
    rcases List.mem_append.1 h with h | h
    · exact rdIs_ids xs pl f k e h
    · rw [List.mem_singleton.1 h]
      exact idOf_len (raw32_len _ _ _)
def idRow (x : List Int) : List Value := x.map (Value.int .u8)
def halfI (l : List (List Int)) (n : Nat) : List (List Value) := (l ++ List.replicate (n - l.length) zero32).map idRow
theorem halfI_row (l : List (List Int)) (n : Nat) (hl : ∀ e, e ∈ l → e.length = 32) : ∀ r, r ∈ halfI l n → r.length = 32 := fun r hr => by
  unfold halfI at hr
  obtain ⟨e, he, rfl⟩ := List.mem_map.1 hr
  have : e.length = 32 := by
    rcases List.mem_append.1 he with h | h
    · exact hl e h
    · rw [(List.mem_replicate.1 h).2]; rfl
  simp [idRow, this]
theorem halfI_at (l : List (List Int)) (n : Nat) (h : l.length < n) : (halfI l n)[l.length]? = some (idRow zero32) := by
  unfold halfI
  rw [List.getElem?_map, List.getElem?_append_right (Nat.le_refl _), Nat.sub_self, List.getElem?_replicate, if_pos (by omega)]
  rfl
theorem halfI_put (l : List (List Int)) (n : Nat) (h : l.length < n) (e : List Int) : (halfI l n).set l.length (idRow e) = halfI (l ++ [e]) n := by
  unfold halfI
  rw [List.length_append, List.length_singleton]
  obtain ⟨m, hm⟩ : ∃ m, n - l.length = m + 1 := ⟨n - l.length - 1, by omega⟩
  rw [show n - (l.length + 1) = m by omega, hm, List.replicate_succ, ← List.map_set, List.set_append_right _ _ (Nat.le_refl _), Nat.sub_self, List.set_cons_zero]
  simp
theorem Tryz.zeroIDi : (Tryz.prog.info? 29).map (fun i => (i.zero, i.size, i.bytes)) = some (some (.agg (idRow zero32).toArray), 32, 32) := by kernel_rfl

def zeroC : ComL := ⟨zero32, [], [], 0, []⟩
theorem Tryz.builtCom (parts : List (Nat × Value)) : Tryz.prog.built 90 parts = Instr.fill (fun i => (#[(0, 32), (32, 1), (33, 1), (34, 1), (35, 1)] : Array (Nat × Nat))[i]?) (zeroC.row (.slice none 0 0)).toArray parts := by kernel_rfl
theorem built_com (id : List Int) (hi : id.length = 32) : Tryz.prog.built 90 [(0, .agg (idC id))] = some ((ComL.mk id [] [] 0 []).row (.slice none 0 0)).toArray := by
  rw [Tryz.builtCom, fill_step (fun i => (#[(0, 32), (32, 1), (33, 1), (34, 1), (35, 1)] : Array (Nat × Nat))[i]?) (zeroC.row (.slice none 0 0)).toArray 0 (.agg (idC id)) _ 0 32 rfl (idC_size hi) (by decide), fill_nil]
  have e : (Value.agg (idC id)).cells.toList = id.map (Value.int .u8) := rfl
  rw [e, setL_put _ _ _ (by rw [List.length_map, hi]; decide)]
  congr 2
  unfold putL ComL.row zeroC
  simp [zero32, hi]
theorem com_set (c : ComL) (pv : Value) (hl : c.tree.length = 32) : (∀ (v : Value) (ps : List (List Int)), (c.row pv).toArray.setIfInBounds 32 v = (({ c with parents := ps } : ComL).row v).toArray) ∧ (∀ s, (c.row pv).toArray.setIfInBounds 33 (.string (strOfNums s)) = (({ c with who := s } : ComL).row pv).toArray) ∧
    (∀ k, (c.row pv).toArray.setIfInBounds 34 (.int .u64 k) = (({ c with time := k } : ComL).row pv).toArray) ∧ (∀ s, (c.row pv).toArray.setIfInBounds 35 (.string (strOfNums s)) = (({ c with text := s } : ComL).row pv).toArray) := by
  have hm : (c.tree.map (Value.int .u8)).length = 32 := by rw [List.length_map, hl]
  refine ⟨fun k _ => ?_, fun k => ?_, fun k => ?_, fun k => ?_⟩
  all_goals
    unfold ComL.row
    rw [List.setIfInBounds_toArray, List.set_append_right _ _ (by omega), hm]
    rfl
theorem com_len (c : ComL) (pv : Value) (hl : c.tree.length = 32) : (c.row pv).toArray.size = 36 := by simp [ComL.row, hl]
theorem com_one (c : ComL) (pv : Value) (hp : pv.oneCell' = true) : (c.row pv).toArray.all (·.oneCell') = true := all_oneCell_toArray fun v hv => by
  unfold ComL.row at hv
  rcases List.mem_append.1 hv with h | h
  · exact map_oneCell _ v h
  · simp at h
    rcases h with rfl | rfl | rfl | rfl
    · exact hp
    · rfl
    · rfl
    · rfl
theorem run_store_list (w : World) (b o : Nat) (cells : List Value) (ht : w.there b o cells.length) (h1 : ∀ v, v ∈ cells → v.oneCell' = true) : (storeCells ⟨b, o, none⟩ cells).run Tryz.prog w = .ok () (w.setCells b o cells) := by
  have := run_storeCells_cells (P := Tryz.prog) b o cells 0 w (fun j hj => by simpa using (ht j hj).1) (fun j hj => by simpa using (ht j hj).2) h1
  simpa [storeCells] using this
end Go.Proofs.YtfcoeinhfdbcgaaGreatDoor
