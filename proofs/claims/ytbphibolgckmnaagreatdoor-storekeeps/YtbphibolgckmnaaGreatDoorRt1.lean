/-
  APPEND of one struct of k cells to a list of one's own; a list of one struct made anew.
  WALK: satchelref3.guess of a commit.
  WALK: satchelref3.guess of a tree.
  PLAIN: what a tree, a tag are written as is read as just them.
  PLAIN: what a tag, a commit are written as is read as just them.
-/
import Derived.Test.YtbphibolgckmnaaGreatDoorEnt4
import Derived.Test.YtbphibolgckmnaaGreatDoorTag2
import Derived.Maps.AppendAt
import Derived.Great.BuildSlice
import Derived.Deep.RegionLaw
import Derived.Test.YtbphibolgckmnaaGreatDoorGs3
import Derived.Test.YtbphibolgckmnaaGreatDoorCom3
import Derived.Test.YtbphibolgckmnaaGreatDoorEnt3
import Derived.Test.YtbphibolgckmnaaGreatDoorBack0
import Derived.Test.YtbphibolgckmnaaGreatDoorReadC
namespace Go.Proofs.YtbphibolgckmnaaGreatDoor
open Go.RowKit

theorem step_append_k {ops : Array Oper} {o : Oper} {a : Act} {w : World} {K : Act → World → Prop} {Q : Exit → Act → World → Prop} {E : Prop} (hgd : o.guard = none) (s x : Operand) (T e : TypeId) (z : Value) (k bytes : Nat)
    (hT : Tryz.prog.underlying T = some (.slice e)) (hinfo : (Tryz.prog.info? e).map (fun i => (i.zero, i.size, i.bytes)) = some (some z, k, bytes)) (hzk : z.cells.size = k) (hk : 0 < k)
    (ho : o.op = .call { callee := .builtin .append, args := #[s, x], argTypes := #[T, T] }) {B : Nat} {v : Value} {n : Nat} {xs : List Value} (hs : a.eval s = v) (hown : w.ownsRow B e k v n xs)
    {q : Nat} {us : List Value} (hx : a.eval x = .slice (some ⟨q, 0, none⟩) 1 1) (hul : us.length = k) (hc : w.rangeAt q 0 us) (hu : ∀ u, u ∈ us → u.oneCell' = true) (hl : n ≤ 1000000) (hb : bytes ≤ 1000) (hB : B ≤ w.heap.size)
    (h : ∀ v' w', w'.ownsRow B e k v' (n + 1) (xs ++ us) → Kept v.ownBlock.toList w w' → (v'.ownBlock = v.ownBlock ∨ v'.ownBlock = some w.heap.size) → K (a.put o.dst v') w') : if Region.wanted o (yielded ops a.tmps) = true then Oper.wp Tryz.prog o a w K Q else E := by
  have hw : Region.wanted o (yielded ops a.tmps) = true := by simp [Region.wanted, hgd]
  rw [if_pos hw]
  obtain ⟨i0, hi, hez⟩ := Option.map_eq_some_iff.1 hinfo
  simp only [Prod.mk.injEq] at hez
  obtain ⟨q0, q1, q2⟩ := hez
  have hnews : ∀ j t, us[j]? = some t → w.cell? ((⟨q, 0, none⟩ : Addr).add j) = some t := fun j t ht => by
    rw [Addr.add_mid]
    exact hc j t ht
  have hmul : (n + 1) * bytes ≤ (1000000 + 1) * 1000 := Nat.mul_le_mul (by omega) hb
  obtain ⟨v', w', hr, h2, h3, _, h5⟩ := run_append_own_at (P := Tryz.prog) w B T o.type e i0 z k bytes hT hi q0 q1 q2 hzk hk v n xs hown ⟨q, 0, none⟩ 1 1 us (by rw [hul, Nat.one_mul]) hnews hu (by unfold maxLen; omega) (by omega) hB
  unfold Oper.wp execOp
  simp only [ho, resolve, invoke, builtin, Sem.run_bind, Sem.run_pure, Result.andThen_ok, List.map_toArray, List.map_cons, List.map_nil, hs, hx, hr]
  exact h v' w' h2 ((Kept.refl _ _).grown h3 fun k hk => Or.inl (by simp [hk])) h5
theorem run_build_k {t e : TypeId} {z : List Value} {k bytes : Nat} (hT : Tryz.prog.underlying t = some (.slice e)) (hinfo : (Tryz.prog.info? e).map (fun i => (i.zero, i.size, i.bytes)) = some (some (.agg z.toArray), k, bytes)) (hk : 0 < k) (hk2 : k ≤ 1000) (us : List Value) (hul : us.length = k) (W : World) :
    (Instr.buildSlice t 1 #[(0, .agg us.toArray)]).run Tryz.prog W = .ok (.slice (some ⟨W.heap.size, 0, none⟩) 1 1) (W.alloc (.cells us.toArray e)) := by
  obtain ⟨i0, hi, hez⟩ := Option.map_eq_some_iff.1 hinfo
  simp only [Prod.mk.injEq] at hez
  obtain ⟨q0, q1, q2⟩ := hez
  refine run_buildSlice W t e 1 _ us.toArray i0 (.agg z.toArray) hT hi q0 (by rw [q1]; omega) (by rw [q1]; omega) ?_
  have hsz : ((Array.range (1 * i0.size)).map ((Value.agg z.toArray).cells[· % (Value.agg z.toArray).cells.size]!)).size = k := by simp [q1]
  generalize (Array.range (1 * i0.size)).map ((Value.agg z.toArray).cells[· % (Value.agg z.toArray).cells.size]!) = C at *
  obtain ⟨C⟩ := C
  show Instr.fill (fun i => some (i * i0.size, i0.size)) C.toArray [(0, .agg us.toArray)] = some us.toArray
  have hC : C.length = k := by simpa using hsz
  rw [fill_step (fun i => some (i * i0.size, i0.size)) C.toArray 0 (.agg us.toArray) [] 0 k (by simp [q1]) (by show us.toArray.size = k; simpa using hul) (by simp [hC])]
  have e1 : (Value.agg us.toArray).cells.toList = us := rfl
  rw [e1, setL_put _ _ _ (by omega), fill_nil]
  unfold putL
  rw [List.take_zero, List.nil_append, Nat.zero_add, hul, List.drop_eq_nil_of_le (by omega), List.append_nil]
theorem ownsK_on {w w' : World} {B : Nat} {e : TypeId} {k : Nat} {v : Value} {n : Nat} {xs : List Value} {T : List Nat} (h : w.ownsRow B e k v n xs) (q : Kept T w w') (hn : ∀ g, v.ownBlock = some g → g ∉ T) : w'.ownsRow B e k v n xs := by
  obtain ⟨hl, h | ⟨g, cap, cur, hv, hB, hg, h1, h2, h3, h4⟩⟩ := h
  · exact ⟨hl, Or.inl h⟩
  · refine ⟨hl, Or.inr ⟨g, cap, cur, hv, hB, q.heap hg (hn g (by rw [hv]; rfl)), h1, h2, h3, h4⟩⟩
/-- Such a list, row by row. -/
theorem ownsK_rows {w : World} {B : Nat} {e : TypeId} {k : Nat} (hk : 0 < k) {v : Value} {rows : List (List Value)} (hr : ∀ r, r ∈ rows → r.length = k) (h : w.ownsRow B e k v rows.length rows.flatten) (hn : rows.length ≤ 140737488351232) : RowsAt w v k rows := by
  obtain ⟨hl, ⟨rfl, h0⟩ | ⟨g, cap, cur, rfl, hB, hg, h1, h2, h3, h4⟩⟩ := h
  · have e0 : rows = [] := by
      cases rows with
      | nil => rfl
      | cons r rs => simp at h0
    subst e0
    exact ⟨none, 0, rfl, Nat.le_refl _, fun _ => rfl, by simp, fun e => absurd rfl e⟩
  · refine ⟨_, cap, rfl, h1, fun e => by simp at e, hn, fun _ => ⟨g, 0, rfl, fun i cs hi j u hj => ?_⟩⟩
    rw [cell_of_row _ _ _ _ _ _ hg, Nat.zero_add]
    have hjk : j < k := by
      have := (List.getElem?_eq_some_iff.1 hj).1
      have := hr cs (List.mem_of_getElem? hi)
      omega
    have hi2 : i < rows.length := (List.getElem?_eq_some_iff.1 hi).1
    have e1 : rows.flatten[i * k + j]? = some u := by
      rw [flat_bind k hk rows hr, Nat.mul_comm i k, Nat.mul_add_div hk, Nat.div_eq_of_lt hjk, Nat.add_zero, hi, Nat.mul_add_mod, Nat.mod_eq_of_lt hjk]
      exact hj
    rw [← h4, List.getElem?_take_of_lt ?_] at e1
    · rw [← e1, Array.getElem?_toList]
    · have : i * k + k ≤ rows.length * k := by rw [← Nat.succ_mul]; exact Nat.mul_le_mul_right k hi2
      omega
end Go.Proofs.YtbphibolgckmnaaGreatDoor

namespace Go.Proofs.YtbphibolgckmnaaGreatDoor
open Go.RowKit

/-- So many ids at most, while bytes are left. -/
def gPars (xs : List Int) : Nat → Nat → List (List Int) × Nat
  | 0, p => ([], p)
  | n + 1, p => if p < xs.length then (takeX xs p 32 :: (gPars xs n (plus xs p 32)).1, (gPars xs n (plus xs p 32)).2) else ([], p)
theorem gPars_next (xs : List Int) (n p : Nat) (hn : 0 < n) (h : p < xs.length) : gPars xs n p = (takeX xs p 32 :: (gPars xs (n - 1) (plus xs p 32)).1, (gPars xs (n - 1) (plus xs p 32)).2) := by
  obtain ⟨m, rfl⟩ : ∃ m, n = m + 1 := ⟨n - 1, by omega⟩
  conv => lhs; unfold gPars
  rw [if_pos h, Nat.add_sub_cancel]
/-- The commit that bytes would be. -/
def gCom (xs : List Int) : ComL :=
  let p1 := plus xs 1 32
  let p2 := plus xs p1 (numG xs p1).2
  let r := gPars xs (numG xs p1).1.toNat p2
  let p4 := txtE xs r.2
  let p5 := plus xs p4 8
  ⟨takeX xs 1 32, r.1, txtG xs r.2, be (takeX xs p4 8), txtG xs p5⟩

end Go.Proofs.YtbphibolgckmnaaGreatDoor

namespace Go.Proofs.YtbphibolgckmnaaGreatDoor
open Go.RowKit

/-- One entry guessed, and the place behind it. -/
def gEnt (xs : List Int) (p : Nat) : EntL := ⟨xAt xs p, txtG xs (plus xs p 1), takeX xs (txtE xs (plus xs p 1)) 32⟩
def gEntE (xs : List Int) (p : Nat) : Nat := plus xs (txtE xs (plus xs p 1)) 32
/-- So many entries at most, while bytes are left. -/
def gEnts (xs : List Int) : Nat → Nat → List EntL × Nat
  | 0, p => ([], p)
  | n + 1, p => if p < xs.length then (gEnt xs p :: (gEnts xs n (gEntE xs p)).1, (gEnts xs n (gEntE xs p)).2) else ([], p)
theorem gEnts_next (xs : List Int) (n p : Nat) (hn : 0 < n) (h : p < xs.length) : gEnts xs n p = (gEnt xs p :: (gEnts xs (n - 1) (gEntE xs p)).1, (gEnts xs (n - 1) (gEntE xs p)).2) := by
  obtain ⟨m, rfl⟩ : ∃ m, n = m + 1 := ⟨n - 1, by omega⟩
  conv => lhs; unfold gEnts
  rw [if_pos h, Nat.add_sub_cancel]
theorem txtG_octs {xs : List Int} (h : Octs xs) (p : Nat) : Octs (txtG xs p) := fun u hu => h u (List.mem_of_mem_drop (List.mem_of_mem_take hu))
/-- The entries that bytes would be. -/
def gTree (xs : List Int) : List EntL := (gEnts xs (numG xs 1).1.toNat (plus xs 1 (numG xs 1).2)).1

end Go.Proofs.YtbphibolgckmnaaGreatDoor

namespace Go.Proofs.YtbphibolgckmnaaGreatDoor
open Go.RowKit

theorem drop_at {xs a b : List Int} {p : Nat} (h : xs.drop p = a ++ b) : xs.drop (p + a.length) = b := by
  rw [← List.drop_drop, h, List.drop_left]
theorem idOf_id {t : List Int} (h : t.length = 32) : idOf t = t := by
  unfold idOf
  rw [h, List.drop_eq_nil_of_le (by decide), List.append_nil]

/-- An entry that may be written. -/
structure EntL.Fit (e : EntL) : Prop where
  m0 : 0 ≤ e.mode
  m1 : e.mode ≤ 255
  name : e.name.length ≤ 255
  id : e.id.length = 32
theorem rdE_back (xs : List Int) (p : Nat) (e : EntL) (tl : List Int) (hf : e.Fit) (hd : xs.drop p = entB e ++ tl) : rdE xs p 0 = (e, p + (entB e).length, 0) := by
  have d0 : xs.drop p = fixedB e.mode 1 ++ (varB e.name.length ++ e.name ++ (e.id ++ tl)) := by rw [hd]; unfold entB; simp only [List.append_assoc]
  have t1 := back_fixed xs p 1 e.mode _ hf.m0 (by have := hf.m1; show e.mode < 256 ^ 1; omega) d0
  have d1 := drop_at d0
  rw [fixedB_len] at d1
  have t2 := back_bytes' xs (p + 1) e.name (e.id ++ tl) 255 (by have := hf.name; omega) (by have := hf.name; omega) d1
  have d2 := drop_at d1
  have t3 := back_raw xs _ e.id tl d2
  rw [hf.id] at t3
  have t1' : takeL xs p 0 0 1 0 = ⟨e.mode, [], p + 1, 0⟩ := t1
  have t3' : takeL xs (p + 1 + (varB e.name.length ++ e.name).length) 0 3 32 0 = ⟨0, e.id, p + 1 + (varB e.name.length ++ e.name).length + 32, 0⟩ := t3
  unfold rdE
  rw [t1']
  dsimp only
  rw [t2]
  dsimp only
  rw [t3']
  dsimp only
  rw [idOf_id hf.id]
  refine Prod.ext rfl (Prod.ext ?_ rfl)
  show p + 1 + (varB e.name.length ++ e.name).length + 32 = p + (entB e).length
  unfold entB
  simp only [List.length_append, fixedB_len, hf.id]
  omega
theorem rdEs_back (xs : List Int) (pl : Nat) (es : List EntL) (tl : List Int) (hf : ∀ e, e ∈ es → e.Fit) (hd : xs.drop pl = entsB es ++ tl) : ∀ k, k ≤ es.length → rdEs xs pl 0 k = (es.take k, pl + (entsB (es.take k)).length, 0) := by
  intro k
  induction k with
  | zero => intro _; simp [rdEs, entsB]
  | succ k ih =>
    intro hk
    have h := ih (by omega)
    obtain ⟨e, he⟩ : ∃ e, es[k]? = some e := ⟨_, List.getElem?_eq_getElem (by omega)⟩
    have hlt : k < es.length := by omega
    have hek : es[k] = e := (List.getElem?_eq_some_iff.1 he).2
    have hsp : entsB es = entsB (es.take k) ++ (entB e ++ entsB (es.drop (k + 1))) := by
      have e1 : es = es.take k ++ (e :: es.drop (k + 1)) := by rw [← hek, ← List.drop_eq_getElem_cons hlt, List.take_append_drop]
      unfold entsB
      conv => lhs; rw [e1]
      rw [List.flatMap_append, List.flatMap_cons]
    rw [hsp, List.append_assoc] at hd
    have hd2 := drop_at hd
    rw [List.append_assoc] at hd2
    have hr := rdE_back xs _ e _ (hf e (List.mem_of_getElem? he)) hd2
    unfold rdEs
    rw [h]
    dsimp only
    rw [hr, entsB_succ he, List.take_succ_eq_append_getElem hlt, hek, List.length_append, ← Nat.add_assoc]
/-- A tree's own encoding, read. -/
theorem tree_back (es : List EntL) (hn : es.length ≤ 1024) (hf : ∀ e, e ∈ es → e.Fit) : takeL (encT es) 0 0 0 1 0 = ⟨2, [], 1, 0⟩ ∧ takeL (encT es) 1 0 1 0 1024 = ⟨es.length, [], 1 + (varB es.length).length, 0⟩ ∧ rdEs (encT es) (1 + (varB es.length).length) 0 es.length = (es, (encT es).length, 0) := by
  have d0 : (encT es).drop 0 = fixedB 2 1 ++ (varB es.length ++ entsB es) := by rw [List.drop_zero]; unfold encT; rw [List.append_assoc]
  have t0 := back_fixed (encT es) 0 1 2 _ (by decide) (by decide) d0
  have d1 := drop_at d0
  rw [fixedB_len, Nat.zero_add] at d1
  have t1 := back_var' (encT es) 1 (es.length : Int) 1024 (entsB es) (by omega) (by omega) (by omega) d1
  have d2 := drop_at d1
  have t2 := rdEs_back (encT es) (1 + (varB es.length).length) es [] hf (by rw [d2, List.append_nil]) es.length (Nat.le_refl _)
  refine ⟨t0, t1, ?_⟩
  rw [t2, List.take_length]
  refine Prod.ext rfl (Prod.ext ?_ rfl)
  show 1 + (varB es.length).length + (entsB es).length = (encT es).length
  unfold encT
  simp only [List.length_append, fixedB_len]
end Go.Proofs.YtbphibolgckmnaaGreatDoor

namespace Go.Proofs.YtbphibolgckmnaaGreatDoor
open Go.RowKit

structure TagL.Fit (t : TagL) : Prop where
  target : t.target.length = 32
  k0 : 0 ≤ t.kind
  k1 : t.kind ≤ 255
  name : t.name.length ≤ 255
  who : t.who.length ≤ 255
  t0 : 0 ≤ t.time
  t1 : t.time ≤ 18446744073709551615
  text : t.text.length ≤ 4096
/-- A tag's own encoding, read. -/
theorem tag_back (t : TagL) (hf : t.Fit) : ∃ y1 y2 y3 y4 y5 y6 : Took, takeL (encG t) 0 0 0 1 0 = ⟨4, [], 1, 0⟩ ∧ y1 = takeL (encG t) 1 0 3 32 0 ∧ y2 = takeL (encG t) y1.pl y1.f 0 1 0 ∧ y3 = takeL (encG t) y2.pl y2.f 2 0 255 ∧ y4 = takeL (encG t) y3.pl y3.f 2 0 255 ∧
    y5 = takeL (encG t) y4.pl y4.f 0 8 0 ∧ y6 = takeL (encG t) y5.pl y5.f 2 0 4096 ∧ t = ⟨idOf y1.text, y2.n, y3.text, y4.text, y5.n, y6.text⟩ ∧ y6.f = 0 ∧ y6.pl = (encG t).length := by
  have d0 : (encG t).drop 0 = fixedB 4 1 ++ (t.target ++ (fixedB t.kind 1 ++ (varB t.name.length ++ t.name ++ (varB t.who.length ++ t.who ++ (fixedB t.time 8 ++ (varB t.text.length ++ t.text ++ [])))))) := by
    rw [List.drop_zero, List.append_nil]; unfold encG; simp only [List.append_assoc]
  have e0 := back_fixed (encG t) 0 1 4 _ (by decide) (by decide) d0
  have d1 := drop_at d0
  rw [fixedB_len, Nat.zero_add] at d1
  have e1 := back_raw (encG t) 1 t.target _ d1
  rw [hf.target] at e1
  have d2 := drop_at d1
  rw [hf.target] at d2
  have e2 := back_fixed (encG t) (1 + 32) 1 t.kind _ hf.k0 (by have := hf.k1; show t.kind < 256 ^ 1; omega) d2
  have d3 := drop_at d2
  rw [fixedB_len] at d3
  have e3 := back_bytes' (encG t) (1 + 32 + 1) t.name _ 255 (by have := hf.name; omega) (by have := hf.name; omega) d3
  have d4 := drop_at d3
  have e4 := back_bytes' (encG t) (1 + 32 + 1 + (varB t.name.length ++ t.name).length) t.who _ 255 (by have := hf.who; omega) (by have := hf.who; omega) d4
  have d5 := drop_at d4
  have e5 := back_fixed (encG t) (1 + 32 + 1 + (varB t.name.length ++ t.name).length + (varB t.who.length ++ t.who).length) 8 t.time _ hf.t0 (by have := hf.t1; show t.time < 256 ^ 8; omega) d5
  have d6 := drop_at d5
  rw [fixedB_len] at d6
  have e6 := back_bytes' (encG t) (1 + 32 + 1 + (varB t.name.length ++ t.name).length + (varB t.who.length ++ t.who).length + 8) t.text [] 4096 (by have := hf.text; omega) (by have := hf.text; omega) d6
  refine ⟨_, _, _, _, _, _, e0, e1.symm, e2.symm, e3.symm, e4.symm, e5.symm, e6.symm, ?_, rfl, ?_⟩
  · dsimp only
    rw [idOf_id hf.target]
  · dsimp only
    unfold encG
    simp only [List.length_append, fixedB_len, hf.target]
    omega

structure ComL.Fit (c : ComL) : Prop where
  tree : c.tree.length = 32
  parents : ∀ o, o ∈ c.parents → o.length = 32
  many : c.parents.length ≤ 8
  who : c.who.length ≤ 255
  t0 : 0 ≤ c.time
  t1 : c.time ≤ 18446744073709551615
  text : c.text.length ≤ 4096
theorem rdIs_back (xs : List Int) (pl : Nat) (ids : List (List Int)) (tl : List Int) (hf : ∀ o, o ∈ ids → o.length = 32) (hd : xs.drop pl = ids.flatten ++ tl) : ∀ k, k ≤ ids.length → rdIs xs pl 0 k = (ids.take k, pl + (ids.take k).flatten.length, 0) := by
  intro k
  induction k with
  | zero => intro _; simp [rdIs]
  | succ k ih =>
    intro hk
    have h := ih (by omega)
    obtain ⟨e, he⟩ : ∃ e, ids[k]? = some e := ⟨_, List.getElem?_eq_getElem (by omega)⟩
    have hlt : k < ids.length := by omega
    have hek : ids[k] = e := (List.getElem?_eq_some_iff.1 he).2
    have h32 := hf e (List.mem_of_getElem? he)
    have hsp : ids.flatten = (ids.take k).flatten ++ (e ++ (ids.drop (k + 1)).flatten) := by
      have e1 : ids = ids.take k ++ (e :: ids.drop (k + 1)) := by rw [← hek, ← List.drop_eq_getElem_cons hlt, List.take_append_drop]
      conv => lhs; rw [e1]
      rw [List.flatten_append, List.flatten_cons]
    rw [hsp, List.append_assoc] at hd
    have hd2 := drop_at hd
    rw [List.append_assoc] at hd2
    have hr := back_raw xs _ e _ hd2
    rw [h32] at hr
    have hr' : takeL xs (pl + (ids.take k).flatten.length) 0 3 32 0 = ⟨0, e, pl + (ids.take k).flatten.length + 32, 0⟩ := hr
    unfold rdIs
    rw [h]
    dsimp only
    rw [hr', List.take_succ_eq_append_getElem hlt, hek, List.flatten_append, List.length_append]
    dsimp only
    rw [idOf_id h32]
    refine Prod.ext rfl (Prod.ext ?_ rfl)
    simp [h32]
    omega
/-- A commit's own encoding, read. -/
theorem com_back (c : ComL) (hf : c.Fit) : ∃ y1 y2 y3 y4 y5 : Took, ∃ p : Nat, takeL (encC c) 0 0 0 1 0 = ⟨3, [], 1, 0⟩ ∧ y1 = takeL (encC c) 1 0 3 32 0 ∧ y2 = takeL (encC c) y1.pl y1.f 1 0 8 ∧ y2.n = (c.parents.length : Int) ∧ rdIs (encC c) y2.pl y2.f c.parents.length = (c.parents, p, 0) ∧
    y3 = takeL (encC c) p 0 2 0 255 ∧ y4 = takeL (encC c) y3.pl y3.f 0 8 0 ∧ y5 = takeL (encC c) y4.pl y4.f 2 0 4096 ∧ c = ⟨idOf y1.text, c.parents, y3.text, y4.n, y5.text⟩ ∧ y5.f = 0 ∧ y5.pl = (encC c).length := by
  have d0 : (encC c).drop 0 = fixedB 3 1 ++ (c.tree ++ (varB c.parents.length ++ (c.parents.flatten ++ (varB c.who.length ++ c.who ++ (fixedB c.time 8 ++ (varB c.text.length ++ c.text ++ [])))))) := by
    rw [List.drop_zero, List.append_nil]; unfold encC; simp only [List.append_assoc]
  have hm := hf.many
  have e0 := back_fixed (encC c) 0 1 3 _ (by decide) (by decide) d0
  have d1 := drop_at d0
  rw [fixedB_len, Nat.zero_add] at d1
  have e1 := back_raw (encC c) 1 c.tree _ d1
  rw [hf.tree] at e1
  have d2 := drop_at d1
  rw [hf.tree] at d2
  have e2 := back_var' (encC c) (1 + 32) (c.parents.length : Int) 8 _ (by omega) (by omega) (by omega) d2
  have d3 := drop_at d2
  have e3 := rdIs_back (encC c) (1 + 32 + (varB c.parents.length).length) c.parents _ hf.parents d3 c.parents.length (Nat.le_refl _)
  rw [List.take_length] at e3
  have d4 := drop_at d3
  have e4 := back_bytes' (encC c) (1 + 32 + (varB c.parents.length).length + c.parents.flatten.length) c.who _ 255 (by have := hf.who; omega) (by have := hf.who; omega) d4
  have d5 := drop_at d4
  have e5 := back_fixed (encC c) (1 + 32 + (varB c.parents.length).length + c.parents.flatten.length + (varB c.who.length ++ c.who).length) 8 c.time _ hf.t0 (by have := hf.t1; show c.time < 256 ^ 8; omega) d5
  have d6 := drop_at d5
  rw [fixedB_len] at d6
  have e6 := back_bytes' (encC c) (1 + 32 + (varB c.parents.length).length + c.parents.flatten.length + (varB c.who.length ++ c.who).length + 8) c.text [] 4096 (by have := hf.text; omega) (by have := hf.text; omega) d6
  refine ⟨_, _, _, _, _, _, e0, e1.symm, e2.symm, rfl, e3, e4.symm, e5.symm, e6.symm, ?_, rfl, ?_⟩
  · dsimp only
    rw [idOf_id hf.tree]
  · dsimp only
    unfold encC
    simp only [List.length_append, fixedB_len, hf.tree]
    omega
end Go.Proofs.YtbphibolgckmnaaGreatDoor
