/-
  WALKS: (*code.Writer).U8, U64 and Bytes, for every Writer.
  APPEND of one struct of k cells to a list of one's own; a list of one struct made anew.
  'append(l, b...)' at a step of a region that draws its order, and at a plain one: l a list of one's own, b any slice of bytes, nil too.
  APPEND of a whole list of structs of k cells to a list of one's own.
-/
import Derived.Test.YtlljiipmkjjhhaaDoorSha1
import Derived.Test.YtlljiipmkjjhhaaDoorPlain2
import Derived.Maps.AppendAt
import Derived.Laws.AppendOwnNone
import Derived.Deep.RegionLaw
import Derived.Deep.AppendLies
import Derived.Deep.DrawnRows
import Derived.Test.YtlljiipmkjjhhaaDoorChecked
import Derived.WalkKit
import Derived.WalkSpells
import Derived.Lib.Walk
import Derived.Lib.BitFns
import Derived.Deep.Light
import Derived.Test.YtlljiipmkjjhhaaDoorRwsA
import Derived.Great.BuildSlice
namespace Go.Proofs.YtlljiipmkjjhhaaDoor
open Go.RowKit

/-- As 'BytesAt.kept': of an empty slice nothing is asked. -/
theorem BytesAt.keep {S : List Nat} {w w' : World} {v : Value} {ys : List Int} (h : BytesAt w v ys) (hk : Kept S w w') (hn : ys ≠ [] → ∀ b, blkOf v = some b → b ∉ S) : BytesAt w' v ys := by
  obtain ⟨ao, cap, rfl, hc, hnil, hcell⟩ := h
  refine ⟨ao, cap, rfl, hc, hnil, fun hne => ?_⟩
  obtain ⟨b, off, rfl, hh⟩ := hcell hne
  exact ⟨b, off, rfl, fun i u hu => hk.cell (hh i u hu) (hn hne b rfl)⟩

end Go.Proofs.YtlljiipmkjjhhaaDoor

namespace Go.Proofs.YtlljiipmkjjhhaaDoor
open Go.RowKit

theorem run_build_k {t e : TypeId} {z : List Value} {k bytes : Nat} (hT : Tryd.prog.underlying t = some (.slice e)) (hinfo : (Tryd.prog.info? e).map (fun i => (i.zero, i.size, i.bytes)) = some (some (.agg z.toArray), k, bytes)) (hk : 0 < k) (hk2 : k ≤ 1000) (us : List Value) (hul : us.length = k) (W : World) :
    (Instr.buildSlice t 1 #[(0, .agg us.toArray)]).run Tryd.prog W = .ok (.slice (some ⟨W.heap.size, 0, none⟩) 1 1) (W.alloc (.cells us.toArray e)) := by
  obtain ⟨i0, hi, hez⟩ := Option.map_eq_some_iff.1 hinfo
  simp only [Prod.mk.injEq] at hez
  obtain ⟨q0, q1, q2⟩ := hez
  refine run_buildSlice W t e 1 _ us.toArray i0 (.agg z.toArray) hT hi q0 (by rw [q1]; omega) (by rw [q1]; omega) ?_
  have hsz : ((Array.range (1 * i0.size)).map ((Value.agg z.toArray).cells[· % (Value.agg z.toArray).cells.size]!)).size = k := by simp [q1]
  generalize (Array.range (1 * i0.size)).map ((Value.agg z.toArray).cells[· % (Value.agg z.toArray).cells.size]!) = C at *
  obtain ⟨C⟩ := C
  show Instr.fill (fun i => some (i * i0.size, i0.size)) C.toArray [(0, .agg us.toArray)] = some us.toArray
  have hC : C.length = k := by simpa using hsz
  rw [fill_step (fun i => some (i * i0.size, i0.size)) C.toArray 0 (.agg us.toArray) [] 0 k (by simp [q1]) (by show us.toArray.size = k; simpa using hul) (by simp [hC])]
  have e1 : (Value.agg us.toArray).cells.toList = us := rfl
  rw [e1, setL_put _ _ _ (by omega), fill_nil]
  unfold putL
  rw [List.take_zero, List.nil_append, Nat.zero_add, hul, List.drop_eq_nil_of_le (by omega), List.append_nil]
theorem ownsK_on {w w' : World} {B : Nat} {e : TypeId} {k : Nat} {v : Value} {n : Nat} {xs : List Value} {T : List Nat} (h : w.ownsRow B e k v n xs) (q : Kept T w w') (hn : ∀ g, v.ownBlock = some g → g ∉ T) : w'.ownsRow B e k v n xs := by
  obtain ⟨hl, h | ⟨g, cap, cur, hv, hB, hg, h1, h2, h3, h4⟩⟩ := h
  · exact ⟨hl, Or.inl h⟩
  · refine ⟨hl, Or.inr ⟨g, cap, cur, hv, hB, q.heap hg (hn g (by rw [hv]; rfl)), h1, h2, h3, h4⟩⟩
/-- Such a list, row by row. -/
theorem ownsK_rows {w : World} {B : Nat} {e : TypeId} {k : Nat} (hk : 0 < k) {v : Value} {rows : List (List Value)} (hr : ∀ r, r ∈ rows → r.length = k) (h : w.ownsRow B e k v rows.length rows.flatten) (hn : rows.length ≤ 140737488351232) : RowsAt w v k rows := by
  obtain ⟨hl, ⟨rfl, h0⟩ | ⟨g, cap, cur, rfl, hB, hg, h1, h2, h3, h4⟩⟩ := h
  · have e0 : rows = [] := by
      cases rows with
      | nil => rfl
      | cons r rs => simp at h0
    subst e0
    exact ⟨none, 0, rfl, Nat.le_refl _, fun _ => rfl, by simp, fun e => absurd rfl e⟩
  · refine ⟨_, cap, rfl, h1, fun e => by simp at e, hn, fun _ => ⟨g, 0, rfl, fun i cs hi j u hj => ?_⟩⟩
    rw [cell_of_row _ _ _ _ _ _ hg, Nat.zero_add]
    have hjk : j < k := by
      have := (List.getElem?_eq_some_iff.1 hj).1
      have := hr cs (List.mem_of_getElem? hi)
      omega
    have hi2 : i < rows.length := (List.getElem?_eq_some_iff.1 hi).1
    have e1 : rows.flatten[i * k + j]? = some u := by
      rw [flat_bind k hk rows hr, Nat.mul_comm i k, Nat.mul_add_div hk, Nat.div_eq_of_lt hjk, Nat.add_zero, hi, Nat.mul_add_mod, Nat.mod_eq_of_lt hjk]
      exact hj
    rw [← h4, List.getElem?_take_of_lt ?_] at e1
    · rw [← e1, Array.getElem?_toList]
    · have : i * k + k ≤ rows.length * k := by rw [← Nat.succ_mul]; exact Nat.mul_le_mul_right k hi2
      omega
theorem wpList_build_k {ops : Array Oper} {rest : List Oper} {o : Oper} {a : Act} {w : World} {Q : Exit → Act → World → Prop} (hgd : o.guard = none) {t e : TypeId} {z : List Value} {k bytes : Nat} (hT : Tryd.prog.underlying t = some (.slice e)) (hinfo : (Tryd.prog.info? e).map (fun i => (i.zero, i.size, i.bytes)) = some (some (.agg z.toArray), k, bytes)) (hk : 0 < k) (hk2 : k ≤ 1000)
    (x : Operand) (ho : o.op = .buildSlice t 1 #[(0, x)]) (us : List Value) (hx : a.eval x = .agg us.toArray) (hul : us.length = k)
    (h : wpList Tryd.prog ops Q rest (a.put o.dst (.slice (some ⟨w.heap.size, 0, none⟩) 1 1)) (w.alloc (.cells us.toArray e))) : wpList Tryd.prog ops Q (o :: rest) a w := by
  refine wpList_plain hgd fun K hK => ?_
  have hr := run_build_k hT hinfo hk hk2 us hul w
  unfold Oper.wp execOp
  simp only [ho, Sem.run_bind, Sem.run_pure, Result.andThen_ok, List.map_toArray, List.map_cons, List.map_nil, hx, hr]
  exact hK _ _ h
theorem row_at_new (w : World) (us : List Value) (e : TypeId) (k : Nat) : RowsAt (w.alloc (.cells us.toArray e)) (.slice (some ⟨w.heap.size, 0, none⟩) 1 1) k [us] := by
  refine ⟨_, 1, rfl, by simp, fun e => by simp at e, by simp, fun _ => ⟨_, 0, rfl, fun i cs hi j u hj => ?_⟩⟩
  rw [cell_of_row _ _ _ _ _ _ (heap_alloc_new w _)]
  match i with
  | 0 => simp at hi; subst hi; simpa using hj
  | i + 1 => simp at hi
end Go.Proofs.YtlljiipmkjjhhaaDoor

namespace Go.Proofs.YtlljiipmkjjhhaaDoor
open Go.RowKit

/-- What 'append' of bytes leaves: a list of one's own; nothing else has turned. -/
structure Appended (w w' : World) (B : Nat) (v v' : Value) (us : List Int) : Prop where
  own : OwnB w' B v' us
  keep : ∀ (a : World) (S : List Nat), Kept S a w → (∀ k, v.ownBlock = some k → k ∈ S ∨ a.heap.size ≤ k) → Kept S a w'
  at' : v'.ownBlock = v.ownBlock ∨ v'.ownBlock = some w.heap.size

theorem run_append_bytes {w : World} {B : Nat} {v : Value} {vs : List Int} (hown : OwnB w B v vs) {x : Value} {zs : List Int} (hx : BytesAt w x zs) (hl : vs.length + zs.length ≤ 140737488355328) (hB : B ≤ w.heap.size) (ty : TypeId) :
    ∃ v' w', (Builtin.append_ #[25, 25] ty #[v, x]).run Tryd.prog w = .ok v' w' ∧ Appended w w' B v v' (vs ++ zs) := by
  obtain ⟨i0, hi, hz0, hz1, hz2⟩ := info_parts Tryd.info_u8
  obtain ⟨ao, cap, rfl, hc, hnil, hcell⟩ := hx
  cases ao with
  | none =>
    obtain rfl : zs = [] := by
      by_cases hy : zs = []
      · exact hy
      · obtain ⟨b, off, hb, _⟩ := hcell hy; cases hb
    obtain rfl := hnil rfl
    exact ⟨v, w, run_append_owned_none (P := Tryd.prog) (w := w) B _ ty 5 i0 1 Tryd.underlying25 hi v _ _ hown, by rw [List.append_nil]; exact hown, fun _ _ h _ => h, Or.inl rfl⟩
  | some a =>
    have hnews : ∀ j u, (zs.map (Value.int .u8))[j]? = some u → w.cell? (a.add j) = some u := by
      intro j u hu
      simp only [List.getElem?_map, Option.map_eq_some_iff] at hu
      obtain ⟨z, hz, rfl⟩ := hu
      obtain ⟨b, off, hb, hh⟩ := hcell (by rintro rfl; simp at hz)
      cases hb
      rw [Addr.add_mid]
      exact hh j z hz
    obtain ⟨v', w', hr, h2, h3, _, h5⟩ := run_append_own_at (P := Tryd.prog) w B _ ty 5 i0 (.int .u8 0) 1 1 Tryd.underlying25 hi hz0 hz1 hz2 rfl (by decide) v vs.length _ hown a zs.length cap (zs.map (Value.int .u8)) (by simp) hnews (map_oneCell _) (by unfold maxLen; omega) (by omega) hB
    refine ⟨v', w', hr, ?_, fun a S h hk => h.grown h3 hk, h5⟩
    unfold OwnB
    rw [List.length_append, List.map_append]
    exact h2

theorem step_append_bytes {ops : Array Oper} {o : Oper} {a : Act} {w : World} {K : Act → World → Prop} {Q : Exit → Act → World → Prop} {E : Prop} (hgd : o.guard = none) (s x : Operand)
    (ho : o.op = .call { callee := .builtin .append, args := #[s, x], argTypes := #[25, 25] }) {B : Nat} {v : Value} {vs : List Int} (hs : a.eval s = v) (hown : OwnB w B v vs)
    {X : Value} {zs : List Int} (hx : a.eval x = X) (hX : BytesAt w X zs) (hl : vs.length + zs.length ≤ 140737488355328) (hB : B ≤ w.heap.size)
    (h : ∀ v' w', Appended w w' B v v' (vs ++ zs) → K (a.put o.dst v') w') : if Region.wanted o (yielded ops a.tmps) = true then Oper.wp Tryd.prog o a w K Q else E := by
  have hw : Region.wanted o (yielded ops a.tmps) = true := by simp [Region.wanted, hgd]
  rw [if_pos hw]
  obtain ⟨v', w', hr, h2⟩ := run_append_bytes hown hX hl hB o.type
  unfold Oper.wp execOp
  simp only [ho, resolve, invoke, builtin, Sem.run_bind, Sem.run_pure, Result.andThen_ok, List.map_toArray, List.map_cons, List.map_nil, hs, hx, hr]
  exact h v' w' h2

end Go.Proofs.YtlljiipmkjjhhaaDoor

namespace Go.Proofs.YtlljiipmkjjhhaaDoor
open Go.RowKit

theorem wpList_append_rows {ops : Array Oper} {rest : List Oper} {o : Oper} {a : Act} {w : World} {Q : Exit → Act → World → Prop} (hgd : o.guard = none) (s x : Operand) (T e : TypeId) (z : Value) (k bytes : Nat)
    (hT : Tryd.prog.underlying T = some (.slice e)) (hinfo : (Tryd.prog.info? e).map (fun i => (i.zero, i.size, i.bytes)) = some (some z, k, bytes)) (hzk : z.cells.size = k) (hk : 0 < k)
    (ho : o.op = .call { callee := .builtin .append, args := #[s, x], argTypes := #[T, T] }) {B : Nat} {v : Value} {n : Nat} {xs : List Value} (hs : a.eval s = v) (hown : w.ownsRow B e k v n xs)
    {X : Value} {rows : List (List Value)} (hx : a.eval x = X) (hX : RowsAt w X k rows) (hr : ∀ r, r ∈ rows → r.length = k) (hu : ∀ r, r ∈ rows → ∀ u, u ∈ r → u.oneCell' = true) (hl : n + rows.length ≤ 1000000) (hb : bytes ≤ 1000) (hB : B ≤ w.heap.size)
    (h : ∀ v' w', w'.ownsRow B e k v' (n + rows.length) (xs ++ rows.flatten) → Kept v.ownBlock.toList w w' → wpList Tryd.prog ops Q rest (a.put o.dst v') w') : wpList Tryd.prog ops Q (o :: rest) a w := by
  refine wpList_plain hgd fun K hK => ?_
  obtain ⟨i0, hi, hez⟩ := Option.map_eq_some_iff.1 hinfo
  simp only [Prod.mk.injEq] at hez
  obtain ⟨q0, q1, q2⟩ := hez
  obtain ⟨ao, cap, rfl, hc, hnil, _, hcell⟩ := hX
  have hmul : (n + rows.length) * bytes ≤ 1000000 * 1000 := Nat.mul_le_mul hl hb
  have key : ∃ v' w', (Builtin.append_ #[T, T] o.type #[v, .slice ao rows.length cap]).run Tryd.prog w = .ok v' w' ∧ w'.ownsRow B e k v' (n + rows.length) (xs ++ rows.flatten) ∧ Kept v.ownBlock.toList w w' := by
    cases ao with
    | none =>
      obtain rfl : rows = [] := by
        by_cases hy : rows = []
        · exact hy
        · obtain ⟨b, off, hb, _⟩ := hcell hy; cases hb
      obtain rfl := hnil rfl
      exact ⟨v, w, run_append_owned_none (P := Tryd.prog) (w := w) B _ o.type e i0 k hT hi v _ _ hown, by rw [List.flatten_nil, List.append_nil]; exact hown, Kept.refl _ _⟩
    | some ad =>
      have hnews : ∀ j u, rows.flatten[j]? = some u → w.cell? (ad.add j) = some u := fun j u hj => by
        rw [flat_bind k hk rows hr] at hj
        obtain ⟨r, hr1, hj2⟩ := Option.bind_eq_some_iff.1 hj
        obtain ⟨b, off, hb, hh⟩ := hcell (by rintro rfl; simp at hr1)
        cases hb
        rw [Addr.add_mid]
        have h1 := hh (j / k) r hr1 (j % k) u hj2
        rw [show off + j / k * k + j % k = off + j by rw [Nat.add_assoc, Nat.mul_comm, Nat.div_add_mod]] at h1
        exact h1
      have hfl : rows.flatten.length = rows.length * k := flat_len k rows hr
      obtain ⟨v', w', hrun, h2, h3, _, _⟩ := run_append_own_at (P := Tryd.prog) w B T o.type e i0 z k bytes hT hi q0 q1 q2 hzk hk v n xs hown ad rows.length cap rows.flatten hfl hnews (fun u hm => by
        obtain ⟨r, hr1, hu1⟩ := List.mem_flatten.1 hm
        exact hu r hr1 u hu1) (by unfold maxLen; omega) (by omega) hB
      exact ⟨v', w', hrun, h2, (Kept.refl _ _).grown h3 fun k hk => Or.inl (by simp [hk])⟩
  obtain ⟨v', w', hrun, h2, h3⟩ := key
  unfold Oper.wp execOp
  simp only [ho, resolve, invoke, builtin, Sem.run_bind, Sem.run_pure, Result.andThen_ok, List.map_toArray, List.map_cons, List.map_nil, hs, hx, hrun]
  exact hK _ _ (h v' w' h2 h3)
end Go.Proofs.YtlljiipmkjjhhaaDoor
