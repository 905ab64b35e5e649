/-
  Commits; WALK: (object.commit).fault.
  WALK: (object.commit).write.
  Links: a list of them that one owns and appends to; WALK: (object.commit).children.
-/
import Derived.Test.YtddhhjgegkkjbaaGreatDoorCom0
import Derived.Test.YtddhhjgegkkjbaaGreatDoorAppK
namespace Go.Proofs.YtddhhjgegkkjbaaGreatDoor
open Go.RowKit

structure ComL where
  tree : List Int
  parents : List (List Int)
  who : List Int
  time : Int
  text : List Int
def ComL.row (c : ComL) (pv : Value) : List Value := c.tree.map (Value.int .u8) ++ [pv, .string (strOfNums c.who), .int .u64 c.time, .string (strOfNums c.text)]
structure ComL.Good (c : ComL) : Prop where
  tree : GoodID c.tree
  parents : ∀ o, o ∈ c.parents → GoodID o
  who : GoodText c.who
  t0 : 0 ≤ c.time
  t1 : c.time ≤ 18446744073709551615
  text : GoodText c.text
theorem com_cells {w : World} {b : Nat} {c : ComL} {pv : Value} {ty : TypeId} {fr : Nat × Nat} (hl : c.tree.length = 32) (h : w.heap[b]? = some (.cells (c.row pv).toArray ty fr)) :
    w.rangeAt b 0 (c.tree.map (Value.int .u8)) ∧ w.cell? ⟨b, 32, none⟩ = some pv ∧ w.cell? ⟨b, 33, none⟩ = some (.string (strOfNums c.who)) ∧ w.cell? ⟨b, 34, none⟩ = some (.int .u64 c.time) ∧ w.cell? ⟨b, 35, none⟩ = some (.string (strOfNums c.text)) := by
  have hr := row_range h
  have hlm : (c.tree.map (Value.int .u8)).length = 32 := by rw [List.length_map, hl]
  have key : ∀ j v, [pv, Value.string (strOfNums c.who), .int .u64 c.time, .string (strOfNums c.text)][j]? = some v → w.cell? ⟨b, 32 + j, none⟩ = some v := fun j v hj => by
    have := hr (32 + j) v (by unfold ComL.row; rw [List.getElem?_append_right (by omega), hlm, Nat.add_sub_cancel_left]; exact hj)
    rwa [Nat.zero_add] at this
  refine ⟨fun j v hj => hr j v ?_, key 0 _ rfl, key 1 _ rfl, key 2 _ rfl, key 3 _ rfl⟩
  unfold ComL.row
  rw [List.getElem?_append_left (List.getElem?_eq_some_iff.1 hj).1]
  exact hj
theorem IdsAt.front {w : World} {ao : Option Addr} {n cap : Nat} {ids : List (List Int)} (h : IdsAt w (.slice ao n cap) ids) (k : Nat) (hk : k ≤ ids.length) : IdsAt w (.slice ao k cap) (ids.take k) := by
  obtain ⟨ao', cap', he, h1, h0, h2, hc⟩ := h
  injection he with e1 e2 e3
  subst e1 e3
  have hl : (ids.take k).length = k := by rw [List.length_take]; omega
  refine ⟨ao, cap, by rw [hl], by omega, h0, by omega, fun hne => ?_⟩
  obtain ⟨b, off, hb, hh⟩ := hc (by rintro rfl; simp at hne)
  refine ⟨b, off, hb, fun i xs hi => hh i xs ?_⟩
  have hik : i < k := by have := (List.getElem?_eq_some_iff.1 hi).1; omega
  rwa [List.getElem?_take_of_lt hik] at hi

def dupB (ids : List (List Int)) : Bool := (List.range ids.length).any fun i => decide ((ids[i]?.getD []) ∈ ids.take i)
def faultC [TabC] (c : ComL) : Int := if 8 < c.parents.length then 35 else if dupB c.parents = true then 36 else if signB c.who c.time c.text = false then 36 else 0

set_option maxRecDepth 100000 in
set_option maxHeartbeats 2000000 in
theorem comFault_any [TabC] (c : ComL) (pv : Value) (w : World) (hT : Tabs w) (hp : IdsAt w pv c.parents) (hg : c.Good) :
    Calls Tryz.prog 143 #[.agg (c.row pv).toArray] w fun e w' => e = .returned (.int .i64 (faultC c)) ∧ Kept [] w w' := by
  have HK0 : Hid (Kept [] w (w.alloc (.cells (c.row pv).toArray 102))) := (Kept.refl _ _).alloc _
  have HB : Hid ((w.alloc (.cells (c.row pv).toArray 102)).heap[w.heap.size]? = some (.cells (c.row pv).toArray 102 (0, 0))) := heap_alloc_new w _
  have HTC : Hid (∀ W : World, W.heap[w.heap.size]? = some (.cells (c.row pv).toArray 102 (0, 0)) → W.cell? ⟨w.heap.size, 32, none⟩ = some pv ∧ W.cell? ⟨w.heap.size, 33, none⟩ = some (.string (strOfNums c.who)) ∧ W.cell? ⟨w.heap.size, 34, none⟩ = some (.int .u64 c.time) ∧ W.cell? ⟨w.heap.size, 35, none⟩ = some (.string (strOfNums c.text))) := fun W hW => (com_cells hg.tree.1 hW).2
  have HSG : Hid (∀ W, Kept [] w W → Calls Tryz.prog 146 #[.string (strOfNums c.who), .int .u64 c.time, .string (strOfNums c.text)] W fun e w' => e = .returned (.int .i64 (if signB c.who c.time c.text = false then 36 else 0)) ∧ Kept [] W w') := fun W hW => signFault_any c.who c.time c.text W (hT.kept hW) hg.who hg.t0 hg.t1
  have HV : Hid (∀ W, Kept [] w W → IdsAt W pv c.parents) := fun W k => hp.keep k (fun _ _ _ => by simp)
  have HG : Hid (∀ o, o ∈ c.parents → GoodID o) := hg.parents
  have hun := Tryz.underlying36
  obtain ⟨ao, cap, rfl, hcap, _, hlen, _⟩ := hp
  obtain ⟨c1, c2, c3, c4⟩ := HTC.out _ HB.out
  obtain ⟨rv, hrv⟩ : ∃ rv : Int, rv = faultC c := ⟨_, rfl⟩
  rw [← hrv]
  obtain ⟨sv, hsv⟩ : ∃ sv : Int, sv = if signB c.who c.time c.text = false then 36 else 0 := ⟨_, rfl⟩
  have HRV : Hid (rv = if 8 < c.parents.length then 35 else if dupB c.parents = true then 36 else sv) := by rw [hsv]; exact hrv
  rw [← hsv] at HSG
  clear hrv hsv hg hT
  generalize (c.row (.slice ao c.parents.length cap)).toArray = tr at *
  generalize strOfNums c.who = sw at *
  generalize strOfNums c.text = st at *
  generalize c.time = tm at *
  generalize c.parents = ids at *
  by_cases hm : 8 < ids.length
  · have hd : decide (8 < (ids.length : Int)) = true := decide_eq_true (by omega)
    have HR : Hid (rv = 35) := by have h := HRV.out; rw [if_pos hm] at h; exact h
    go_enter Tryz.func143, Tryz.ntmps143
    go_wp2
    go_ret
    exact ⟨by rw [HR.out]; rfl, HK0.out⟩
  · have hd8 : decide (8 < (ids.length : Int)) = false := decide_eq_false (by omega)
    have HR : Hid (rv = if dupB ids = true then 36 else sv) := by have h := HRV.out; rw [if_neg hm] at h; exact h
    clear HRV
    go_enter Tryz.func143, Tryz.ntmps143
    go_wp2
    go_loopw [3, 4, 12] (fun _ _ s12 wr => ∃ k : Nat, k ≤ ids.length ∧ s12 = .int .i64 k ∧ Hid (∀ (i : Nat), i < k → decide ((ids[i]?.getD []) ∈ ids.take i) = false) ∧ Hid (wr.heap[w.heap.size]? = some (.cells tr 102 (0, 0))) ∧ Hid (Kept [] w wr)) (fun _ _ s12 _ => ids.length - (intOf s12).toNat)
    case atStart => exact ⟨0, Nat.zero_le _, rfl, fun i h => absurd h (by omega), HB, HK0⟩
    case round =>
      obtain ⟨k, hk, rfl, HN, HBx, HK⟩ := hrel
      obtain ⟨x1, x2, x3, x4⟩ := HTC.out wr HBx.out
      by_cases hlt : k < ids.length
      · obtain ⟨o, ho⟩ : ∃ o, ids[k]? = some o := ⟨_, List.getElem?_eq_getElem hlt⟩
        have hgo := HG.out o (List.mem_of_getElem? ho)
        obtain ⟨ao', cap', he, _, _, _, hc⟩ := HV.out wr HK.out
        injection he with e1 e2 e3
        subst e1 e3
        obtain ⟨b, off, rfl, hh⟩ := hc (by rintro rfl; simp at hlt)
        have hr := hh k o ho
        have hso : (Tryz.prog.info? 36).map (·.size) = some (o.map (Value.int .u8)).length := by rw [List.length_map, hgo.1]; exact Tryz.infoID
        have hsoc : (Tryz.prog.info? 36).map (·.size) = some (idC o).size := by rw [idC_size hgo.1]; exact Tryz.infoID
        have hao : (idC o).all (·.oneCell') = true := all_oneCell_toArray (map_oneCell _)
        have ho32 : (idC o).size = 32 := idC_size hgo.1
        have hoc : (o.map (Value.int .u8)).toArray = idC o := rfl
        have hbw := lt_of_block HBx.out
        have HKA : Hid (Kept [] wr (wr.alloc (.cells (idC o) 36))) := (Kept.refl _ _).alloc _
        have HRo : Hid (∀ W, Kept [] (wr.alloc (.cells (idC o) 36)) W → W.rangeAt wr.heap.size 0 (o.map (Value.int .u8))) := fun W hW => range_kept (range_box wr o 36) hW (by simp)
        have HC1 : Hid (∀ W, Kept [] (wr.alloc (.cells (idC o) 36)) W → W.cell? ⟨w.heap.size, 32, none⟩ = some (.slice (some ⟨b, off, none⟩) ids.length cap)) := fun W hW => hW.cell (HKA.out.cell x1 (by simp)) (by simp)
        have HCT : Hid (∀ W, Kept [] (wr.alloc (.cells (idC o) 36)) W → Calls Tryz.prog 145 #[.slice (some ⟨b, off, none⟩) k cap, .agg (o.map (Value.int .u8)).toArray] W fun e w' => e = .returned (.bool (decide (o ∈ ids.take k))) ∧ Kept [] W w') := fun W hW => ContainsIDs_any _ (ids.take k) o W (IdsAt.front (HV.out W (HK.out.then (HKA.out.then hW))) k (by omega)) (fun x hx => HG.out x (List.mem_of_mem_take hx)) hgo
        have HX : Hid (∀ W, Kept [] (wr.alloc (.cells (idC o) 36)) W → W.heap[w.heap.size]? = some (.cells tr 102 (0, 0)) ∧ Kept [] w W) := fun W hW => ⟨hW.heap (HKA.out.heap HBx.out (by simp)) (by simp), HK.out.then (HKA.out.then hW)⟩
        have HOD : Hid (ids[k]?.getD [] = o) := by rw [ho]; exact rfl
        clear hh hc ho hgo
        generalize hoi : idC o = oc at *
        go_wp2_with (first
          | (refine wpList_load_mid (by rfl) 36 (.tmp 15) (by rfl) b (off + k * 32) (by rfl) (o.map (Value.int .u8)) _ hr hun rfl hso ?_; rw [hoc])
          | (refine wpList_store_new (by rfl) 36 (.tmp 4) (.tmp 16) (by rfl) wr _ oc (by rfl) (by rfl) hsoc (by rw [ho32]; rfl) hao ?_)
          | fail)
        refine region_quiet (Kept [] (wr.alloc (.cells oc 36))) (by kernel_rfl) (by kernel_rfl) (Kept.refl [] _).drew ?_
        refine quiet_val (by rfl) (.pointer (some ⟨w.heap.size, 32, none⟩)) (fun W => by go_simp) ?_
        simp only [Act.put, List.setIfInBounds_toArray, List.set_cons_zero, List.set_cons_succ]
        refine valC (by rfl) (.slice (some ⟨b, off, none⟩) ids.length cap) (fun W hW => by have hcc := HC1.out W hW; go_simp) ?_
        simp only [Act.put, List.setIfInBounds_toArray, List.set_cons_zero, List.set_cons_succ]
        refine quiet_move (by rfl) (.tmp 3) rfl (.int .i64 k) rfl ?_
        simp only [Act.put, List.setIfInBounds_toArray, List.set_cons_zero, List.set_cons_succ]
        refine quiet_val (by rfl) (.slice (some ⟨b, off, none⟩) k cap) (fun W => by go_simp; intro h; omega) ?_
        simp only [Act.put, List.setIfInBounds_toArray, List.set_cons_zero, List.set_cons_succ]
        refine quiet_row (by rfl) _ _ rfl wr.heap.size 0 rfl (o.map (Value.int .u8)) _ HRo.out hun rfl hso ?_
        simp only [Act.put, List.setIfInBounds_toArray, List.set_cons_zero, List.set_cons_succ]
        refine quiet_call (by rfl) 145 #[.slice (some ⟨b, off, none⟩) k cap, .agg (o.map (Value.int .u8)).toArray] (.bool (decide (o ∈ ids.take k))) (fun W => by go_simp) (fun W hW => (HCT.out W hW).mono fun e w' h => ⟨h.1, hW.then h.2⟩) ?_
        simp only [Act.put, List.setIfInBounds_toArray, List.set_cons_zero, List.set_cons_succ]
        refine wpQuiet_nil fun w3 hk3 => ?_
        obtain ⟨hb3, hkw3⟩ := HX.out w3 hk3
        have HB3 : Hid (w3.heap[w.heap.size]? = some (.cells tr 102 (0, 0))) := hb3
        have HK3 : Hid (Kept [] w w3) := hkw3
        clear hb3 hkw3 hk3 HX HCT HC1 HRo x1 x2 x3 x4 hr
        by_cases hin : o ∈ ids.take k
        · have hd : decide (o ∈ ids.take k) = true := decide_eq_true hin
          rw [hd]
          have HD : Hid (rv = 36) := by
            have h := HR.out
            have hdup : dupB ids = true := by
              unfold dupB
              rw [List.any_eq_true]
              exact ⟨k, List.mem_range.2 hlt, by rw [HOD.out]; exact hd⟩
            rw [if_pos hdup] at h
            exact h
          clear hin hd
          go_wp2
          go_ret
          exact ⟨by rw [HD.out]; rfl, HK3.out⟩
        · have hd : decide (o ∈ ids.take k) = false := decide_eq_false hin
          rw [hd]
          have HN' : Hid (∀ (i : Nat), i < k + 1 → decide ((ids[i]?.getD []) ∈ ids.take i) = false) := fun i hi => by
            by_cases hik : i = k
            · subst hik; rw [HOD.out]; exact hd
            · exact HN.out i (by omega)
          clear hin hd
          go_wp2
          go_roundw
          case rel => exact ⟨k + 1, by omega, by go_num, HN', HB3, HK3⟩
          case measure => simp [intOf]; omega
      · obtain rfl : k = ids.length := by omega
        have HD : Hid (rv = sv) := by
          have h := HR.out
          have hdup : dupB ids = false := by
            unfold dupB
            rw [List.any_eq_false]
            intro i hi
            rw [HN.out i (List.mem_range.1 hi)]
            simp
          rw [hdup, if_neg (by decide)] at h
          exact h
        clear HN
        go_wp2_with (go_at_call 146; refine (HSG.out _ HK.out).mono ?_; rintro e w2 ⟨rfl, hk2⟩; have HK2 : Hid (Kept [] w w2) := HK.out.then hk2; clear hk2)
        go_ret
        exact ⟨by rw [HD.out]; rfl, HK2.out⟩
end Go.Proofs.YtddhhjgegkkjbaaGreatDoor

namespace Go.Proofs.YtddhhjgegkkjbaaGreatDoor
open Go.RowKit

theorem WB.kept {w0 W W' : World} {wb B : Nat} {zs : List Int} {S : List Nat} {b : Nat} {cs : Array Value} {ty : TypeId} (h : WB w0 W wb B zs S b cs ty) (k : Kept [] W W') : WB w0 W' wb B zs S b cs ty := by
  obtain ⟨S', q, hb, hc⟩ := h
  exact ⟨S', q.kept k, hb, k.heap hc (by simp)⟩
theorem WB.keep {w0 W : World} {wb B : Nat} {zs : List Int} {S : List Nat} {b : Nat} {cs : Array Value} {ty : TypeId} (h : WB w0 W wb B zs S b cs ty) : Kept S w0 W := h.elim fun _ q => q.1.keep
/-- A commit's encoding. -/
def encC (c : ComL) : List Int := fixedB 3 1 ++ c.tree ++ varB c.parents.length ++ c.parents.flatten ++ varB c.who.length ++ c.who ++ fixedB c.time 8 ++ varB c.text.length ++ c.text
end Go.Proofs.YtddhhjgegkkjbaaGreatDoor

namespace Go.Proofs.YtddhhjgegkkjbaaGreatDoor
open Go.RowKit

theorem wpList_append_k {ops : Array Oper} {rest : List Oper} {o : Oper} {a : Act} {w : World} {Q : Exit → Act → World → Prop} (hgd : o.guard = none) (s x : Operand) (T e : TypeId) (z : Value) (k bytes : Nat)
    (hT : Tryz.prog.underlying T = some (.slice e)) (hinfo : (Tryz.prog.info? e).map (fun i => (i.zero, i.size, i.bytes)) = some (some z, k, bytes)) (hzk : z.cells.size = k) (hk : 0 < k)
    (ho : o.op = .call { callee := .builtin .append, args := #[s, x], argTypes := #[T, T] }) {B : Nat} {v : Value} {n : Nat} {xs : List Value} (hs : a.eval s = v) (hown : w.ownsRow B e k v n xs)
    {q : Nat} {us : List Value} (hx : a.eval x = .slice (some ⟨q, 0, none⟩) 1 1) (hul : us.length = k) (hc : w.rangeAt q 0 us) (hu : ∀ u, u ∈ us → u.oneCell' = true) (hl : n ≤ 1000000) (hb : bytes ≤ 1000) (hB : B ≤ w.heap.size)
    (h : ∀ v' w', w'.ownsRow B e k v' (n + 1) (xs ++ us) → Kept v.ownBlock.toList w w' → (v'.ownBlock = v.ownBlock ∨ v'.ownBlock = some w.heap.size) → wpList Tryz.prog ops Q rest (a.put o.dst v') w') : wpList Tryz.prog ops Q (o :: rest) a w := by
  refine wpList_plain hgd fun K hK => ?_
  have h0 := step_append_k (ops := ops) (K := K) (Q := Q) (E := True) hgd s x T e z k bytes hT hinfo hzk hk ho hs hown hx hul hc hu hl hb hB (fun v' w' a1 a2 a3 => hK _ _ (h v' w' a1 a2 a3))
  rw [if_pos (by simp [Region.wanted, hgd])] at h0
  exact h0
/-- A list of links in a block of one's own. -/
def LkOwn (w : World) (B : Nat) (v : Value) (ks : List LinkL) : Prop := w.ownsRow B 203 33 v ks.length (ks.map LinkL.row).flatten
theorem LinkL.row_len {l : LinkL} (h : l.id.length = 32) : l.row.length = 33 := by simp [LinkL.row, h]
theorem LinkL.one (l : LinkL) : ∀ v, v ∈ l.row → v.oneCell' = true := fun v hv => by
  unfold LinkL.row at hv
  rcases List.mem_append.1 hv with h | h
  · exact map_oneCell _ v h
  · rw [List.mem_singleton.1 h]; rfl
theorem LkOwn.nil (w : World) (B : Nat) : LkOwn w B (.slice none 0 0) [] := ⟨rfl, Or.inl ⟨rfl, rfl⟩⟩
theorem LkOwn.first {w : World} {B : Nat} (hB : B ≤ w.heap.size) (k : LinkL) (hk : k.id.length = 32) : LkOwn (w.alloc (.cells k.row.toArray 203)) B (.slice (some ⟨w.heap.size, 0, none⟩) 1 1) [k] := by
  refine ⟨by simp [LinkL.row, hk], Or.inr ⟨w.heap.size, 1, k.row.toArray, rfl, hB, heap_alloc_new w _, Nat.le_refl _, by decide, by rw [List.size_toArray, LinkL.row_len hk], ?_⟩⟩
  simp [LinkL.row]
  exact List.take_of_length_le (by simp [hk])
theorem LkOwn.rows {w : World} {B : Nat} {v : Value} {ks : List LinkL} (h : LkOwn w B v ks) (hg : ∀ k, k ∈ ks → k.id.length = 32) (hn : ks.length ≤ 1000000) : RowsAt w v 33 (ks.map LinkL.row) := by
  refine ownsK_rows (by decide) (fun r hr => ?_) (by rw [List.length_map]; exact h) (by rw [List.length_map]; omega)
  obtain ⟨k, hk, rfl⟩ := List.mem_map.1 hr
  exact LinkL.row_len (hg k hk)

end Go.Proofs.YtddhhjgegkkjbaaGreatDoor
