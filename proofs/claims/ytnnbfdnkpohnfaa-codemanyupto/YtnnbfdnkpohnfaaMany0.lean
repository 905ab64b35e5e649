/-
  'append(l, x)' where l is a list of one's own, of elements of one cell; and the crowd of Writers, lists and Readers of satchellaw1.CodeMany.
-/
import Derived.Test.YtnnbfdnkpohnfaaFam
import Derived.Test.YtnnbfdnkpohnfaaReader0
import Derived.Test.YtnnbfdnkpohnfaaEq
namespace Go.Proofs.Ytnnbfdnkpohnfaa
open Go.RowKit

theorem Try.info_wp : (Try.prog.info? 27).map (fun i => (i.zero, i.size, i.bytes)) = some (some (.pointer none), 1, 8) := by kernel_rfl
theorem Try.info_rp : (Try.prog.info? 50).map (fun i => (i.zero, i.size, i.bytes)) = some (some (.pointer none), 1, 8) := by kernel_rfl
theorem Try.info_bl : (Try.prog.info? 22).map (fun i => (i.zero, i.size, i.bytes)) = some (some (.slice none 0 0), 1, 24) := by kernel_rfl

theorem info_parts' {e : TypeId} {z : Value} {bytes : Nat} (h : (Try.prog.info? e).map (fun i => (i.zero, i.size, i.bytes)) = some (some z, 1, bytes)) : ∃ i, Try.prog.info? e = some i ∧ i.zero = some z ∧ i.size = 1 ∧ i.bytes = bytes := by
  obtain ⟨i, hi, he⟩ := Option.map_eq_some_iff.1 h
  simp only [Prod.mk.injEq] at he
  exact ⟨i, hi, he.1, he.2.1, he.2.2⟩

theorem wpList_append_one {ops : Array Oper} {rest : List Oper} {o : Oper} {a : Act} {w : World} {Q : Exit → Act → World → Prop} (hgd : o.guard = none) (s x : Operand) (T e : TypeId) (z : Value) (bytes : Nat)
    (hT : Try.prog.underlying T = some (.slice e)) (hinfo : (Try.prog.info? e).map (fun i => (i.zero, i.size, i.bytes)) = some (some z, 1, bytes)) (hz1 : z.cells.size = 1)
    (ho : o.op = .call { callee := .builtin .append, args := #[s, x], argTypes := #[T, T] }) {B : Nat} {v : Value} {xs : List Value} (hs : a.eval s = v) (hown : w.ownsRow B e 1 v xs.length xs)
    {q : Nat} {u : Value} (hx : a.eval x = .slice (some ⟨q, 0, none⟩) 1 1) (hc : w.cell? ⟨q, 0, none⟩ = some u) (hu : u.oneCell' = true) (hl : xs.length ≤ 1000000) (hb : bytes ≤ 1000) (hB : B ≤ w.heap.size)
    (h : ∀ v' w', w'.ownsRow B e 1 v' (xs ++ [u]).length (xs ++ [u]) → Kept v.ownBlock.toList w w' → (v'.ownBlock = v.ownBlock ∨ v'.ownBlock = some w.heap.size) → wpList Try.prog ops Q rest (a.put o.dst v') w') : wpList Try.prog ops Q (o :: rest) a w := by
  obtain ⟨i0, hi, q0, q1, q2⟩ := info_parts' hinfo
  refine wpList_plain hgd fun K hK => ?_
  have hnews : ∀ j t, [u][j]? = some t → w.cell? ((⟨q, 0, none⟩ : Addr).add j) = some t := by
    intro j t ht
    cases j with
    | zero => simp only [List.getElem?_cons_zero, Option.some.injEq] at ht; subst ht; rw [Addr.add_mid]; exact hc
    | succ j => simp at ht
  have hmul : (xs.length + 1) * bytes ≤ (1000000 + 1) * 1000 := Nat.mul_le_mul (by omega) hb
  obtain ⟨v', w', hr, h2, h3, _, h5⟩ := run_append_own_at (P := Try.prog) w B T o.type e i0 z 1 bytes hT hi q0 q1 q2 hz1 (by decide) v xs.length xs hown ⟨q, 0, none⟩ 1 1 [u] rfl hnews (by simpa using hu) (by unfold maxLen; omega) (by omega) hB
  unfold Oper.wp execOp
  simp only [ho, resolve, invoke, builtin, Sem.run_bind, Sem.run_pure, Result.andThen_ok, List.map_toArray, List.map_cons, List.map_nil, hs, hx, hr]
  refine hK _ _ (h v' w' (by rw [List.length_append]; exact h2) ((Kept.refl _ _).grown h3 fun k hk => Or.inl (by simp [hk])) h5)

/-- A Writer by itself; a Reader. -/
def watT (r B : Nat) (zs : List Int) (S : List Nat) : Thing := ⟨fun w => WAt w r B zs S, S, fun _ _ _ h k hd => h.kept k hd⟩
structure RRec where
  r : Nat
  g : Nat
  xs : List Int
  pl : Nat
def rdT (x : RRec) : Thing := ⟨fun w => Rdr w x.r x.g x.xs x.pl 0, [x.r, x.g], fun _ _ _ h k hd => h.kept k (hd _ (by simp)) (hd _ (by simp))⟩

inductive MIx where
  | sc | pv | hv | rv
  | du (j : Nat)
  | rd (j : Nat)
deriving DecidableEq

def ptrOf (r : Nat) : Value := .pointer (some ⟨r, 0, none⟩)
def famOf (B : Nat) (sc : Array Value) (pv hv rv : Value) (L : List Rec) (R : List RRec) : MIx → Thing
  | .sc => boxT B sc 42
  | .pv => rowT 27 B pv (L.map fun x => ptrOf x.r)
  | .hv => rowT 22 B hv (L.map Rec.v)
  | .rv => rowT 50 B rv (R.map fun x => ptrOf x.r)
  | .du j => (L[j]?).elim nilT (duoT B)
  | .rd j => (R[j]?).elim nilT rdT

abbrev Crowd (w wr : World) (sc : Array Value) (pv hv rv : Value) (L : List Rec) (R : List RRec) : Prop := Fam w wr (famOf w.heap.size sc pv hv rv L R)

section
variable {w wr : World} {sc : Array Value} {pv hv rv : Value} {L : List Rec} {R : List RRec}

theorem Crowd.script (C : Crowd w wr sc pv hv rv L R) : w.heap.size < wr.heap.size ∧ ∀ o, wr.cell? ⟨w.heap.size, o, none⟩ = sc[o]? := by
  have h : wr.heap[w.heap.size]? = some (.cells sc 42 (0, 0)) := C.holds .sc
  exact ⟨lt_of_block h, fun o => cell_of_row _ _ _ _ _ _ h⟩
theorem Crowd.duo (C : Crowd w wr sc pv hv rv L R) {j : Nat} {x : Rec} (hj : L[j]? = some x) : Duo wr x.r w.heap.size x.v x.zs x.S := by
  have h : ((L[j]?).elim nilT (duoT w.heap.size)).P wr := C.holds (.du j)
  rw [hj] at h
  exact h
theorem Crowd.rdr (C : Crowd w wr sc pv hv rv L R) {j : Nat} {x : RRec} (hj : R[j]? = some x) : Rdr wr x.r x.g x.xs x.pl 0 := by
  have h : ((R[j]?).elim nilT rdT).P wr := C.holds (.rd j)
  rw [hj] at h
  exact h
theorem Crowd.writers (C : Crowd w wr sc pv hv rv L R) (hn : 0 < L.length) : ∃ g cap, pv = .slice (some ⟨g, 0, none⟩) L.length cap ∧ L.length ≤ cap ∧ cap ≤ 9223372036854775807 ∧ w.heap.size ≤ g ∧ g < wr.heap.size ∧ (∀ j x, L[j]? = some x → wr.cell? ⟨g, j, none⟩ = some (ptrOf x.r)) ∧ (∀ j, wr.frozen? ⟨g, j, none⟩ = false) := by
  have h : wr.ownsRow w.heap.size 27 1 pv (L.map fun x => ptrOf x.r).length (L.map fun x => ptrOf x.r) := C.holds .pv
  rw [List.length_map] at h
  obtain ⟨g, cap, h1, h2, h3, h4, h5, h6, h7⟩ := owns_at h hn
  refine ⟨g, cap, h1, h2, h3, h4, h5, fun j x hj => ?_, h7⟩
  rw [h6 j (List.getElem?_eq_some_iff.1 hj).1, List.getElem?_map, hj]
  rfl
theorem Crowd.lists (C : Crowd w wr sc pv hv rv L R) (hn : 0 < L.length) : ∃ g cap, hv = .slice (some ⟨g, 0, none⟩) L.length cap ∧ L.length ≤ cap ∧ cap ≤ 9223372036854775807 ∧ w.heap.size ≤ g ∧ g < wr.heap.size ∧ (∀ j x, L[j]? = some x → wr.cell? ⟨g, j, none⟩ = some x.v) ∧ (∀ j, wr.frozen? ⟨g, j, none⟩ = false) := by
  have h : wr.ownsRow w.heap.size 22 1 hv (L.map Rec.v).length (L.map Rec.v) := C.holds .hv
  rw [List.length_map] at h
  obtain ⟨g, cap, h1, h2, h3, h4, h5, h6, h7⟩ := owns_at h hn
  refine ⟨g, cap, h1, h2, h3, h4, h5, fun j x hj => ?_, h7⟩
  rw [h6 j (List.getElem?_eq_some_iff.1 hj).1, List.getElem?_map, hj]
  rfl
theorem Crowd.readers (C : Crowd w wr sc pv hv rv L R) (hn : 0 < R.length) : ∃ g cap, rv = .slice (some ⟨g, 0, none⟩) R.length cap ∧ R.length ≤ cap ∧ cap ≤ 9223372036854775807 ∧ w.heap.size ≤ g ∧ g < wr.heap.size ∧ (∀ j x, R[j]? = some x → wr.cell? ⟨g, j, none⟩ = some (ptrOf x.r)) ∧ (∀ j, wr.frozen? ⟨g, j, none⟩ = false) := by
  have h : wr.ownsRow w.heap.size 50 1 rv (R.map fun x => ptrOf x.r).length (R.map fun x => ptrOf x.r) := C.holds .rv
  rw [List.length_map] at h
  obtain ⟨g, cap, h1, h2, h3, h4, h5, h6, h7⟩ := owns_at h hn
  refine ⟨g, cap, h1, h2, h3, h4, h5, fun j x hj => ?_, h7⟩
  rw [h6 j (List.getElem?_eq_some_iff.1 hj).1, List.getElem?_map, hj]
  rfl

/-- A Writer and its list come new: the four steps of a round of the first loop. -/
theorem Crowd.grow (C : Crowd w wr sc pv hv rv L R) {w1 w2 w3 w4 w5 : World} {pv' : Value} {gh ch : Nat} {u : Value} {us : List Int}
    (hA : WAt w1 wr.heap.size w.heap.size [] [wr.heap.size]) (k1 : Kept [] wr w1)
    (p2 : w2.ownsRow w.heap.size 27 1 pv' (L.map (fun x => ptrOf x.r) ++ [ptrOf wr.heap.size]).length (L.map (fun x => ptrOf x.r) ++ [ptrOf wr.heap.size])) (k2 : Kept pv.ownBlock.toList w1 w2) (a2 : ∀ b, pv'.ownBlock = some b → pv.ownBlock = some b ∨ w1.heap.size ≤ b)
    (h3 : w3.ownsRow w.heap.size 22 1 (.slice (some ⟨gh, 0, none⟩) (L.length + 1) ch) (L.map Rec.v ++ [Value.slice none 0 0]).length (L.map Rec.v ++ [Value.slice none 0 0])) (k3 : Kept hv.ownBlock.toList w2 w3) (a3 : hv.ownBlock = some gh ∨ w2.heap.size ≤ gh)
    (hW : Wrote w3 w4 wr.heap.size w.heap.size us [wr.heap.size]) (k5 : Kept [] w4 w5) (hu : OwnB w5 w4.heap.size u us) :
    ∃ S', Crowd w (w5.setCell ⟨gh, L.length, none⟩ u) sc pv' (.slice (some ⟨gh, 0, none⟩) (L.length + 1) ch) rv (L ++ [⟨wr.heap.size, u, us, S'⟩]) R := by
  have hl : ∀ b, b ∈ (famOf w.heap.size sc pv hv rv L R (.du L.length)).F → False := by
    intro b hb
    have e : famOf w.heap.size sc pv hv rv L R (.du L.length) = nilT := by simp [famOf]
    rw [e] at hb
    simp [nilT] at hb
  have hrl := (hA.lt wr.heap.size (by simp)).2
  have F1 := C.put (.du L.length) (watT wr.heap.size w.heap.size [] [wr.heap.size]) (k1.more (by simp)) hA (fun b hb => by
    have e : b = wr.heap.size := by simpa [watT] using hb
    subst e
    exact ⟨Or.inr (Nat.le_refl _), hrl⟩)
  have F2 := F1.put .pv (rowT 27 w.heap.size pv' (L.map (fun x => ptrOf x.r) ++ [ptrOf wr.heap.size])) k2 p2 (fun b hb => by
    have e : pv'.ownBlock = some b := by simpa [rowT] using hb
    refine ⟨(a2 b e).imp (fun h => ?_) id, (World.ownsRow.lt p2 b e).2⟩
    show b ∈ pv.ownBlock.toList
    simp [h])
  have F3 := F2.put .hv (rowT 22 w.heap.size (.slice (some ⟨gh, 0, none⟩) (L.length + 1) ch) (L.map Rec.v ++ [Value.slice none 0 0])) k3 h3 (fun b hb => by
    have e : (Value.slice (some ⟨gh, 0, none⟩) (L.length + 1) ch).ownBlock = some b := by simpa [rowT] using hb
    have e' : gh = b := by simpa [Value.ownBlock] using e
    refine ⟨a3.imp (fun h => ?_) (fun h => by omega), (World.ownsRow.lt h3 b e).2⟩
    show b ∈ hv.ownBlock.toList
    simp [h, e'])
  obtain ⟨S', hW', kS, hS⟩ := hW
  have F4 := F3.put (.du L.length) (watT wr.heap.size w.heap.size us S') (by
    have e : (fset (fset (fset (famOf w.heap.size sc pv hv rv L R) (.du L.length) (watT wr.heap.size w.heap.size [] [wr.heap.size])) .pv (rowT 27 w.heap.size pv' (L.map (fun x => ptrOf x.r) ++ [ptrOf wr.heap.size]))) .hv (rowT 22 w.heap.size (.slice (some ⟨gh, 0, none⟩) (L.length + 1) ch) (L.map Rec.v ++ [Value.slice none 0 0])) (.du L.length)).F = [wr.heap.size] := by simp [fset, watT]
    rw [e]
    exact kS) hW' (fun b hb => by
    have e : (fset (fset (fset (famOf w.heap.size sc pv hv rv L R) (.du L.length) (watT wr.heap.size w.heap.size [] [wr.heap.size])) .pv (rowT 27 w.heap.size pv' (L.map (fun x => ptrOf x.r) ++ [ptrOf wr.heap.size]))) .hv (rowT 22 w.heap.size (.slice (some ⟨gh, 0, none⟩) (L.length + 1) ch) (L.map Rec.v ++ [Value.slice none 0 0])) (.du L.length)).F = [wr.heap.size] := by simp [fset, watT]
    rw [e]
    exact ⟨hS b hb, (hW'.lt b hb).2⟩)
  have hul : ∀ b, u.ownBlock = some b → w4.heap.size ≤ b ∧ b < w5.heap.size := fun b hb => World.ownsRow.lt hu b hb
  have hD : Duo w5 wr.heap.size w.heap.size u us S' := ⟨hW'.kept k5 (by simp), hu.mono (Nat.le_trans F4.kept.size (Nat.le_refl _)), fun b hb hm => absurd (hW'.lt b hm).2 (by have := (hul b hb).1; omega)⟩
  have F5 := F4.put (.du L.length) (duoT w.heap.size ⟨wr.heap.size, u, us, S'⟩) (k5.more (by simp)) hD (fun b hb => by
    rw [fset_same]
    rcases mem_foot.1 hb with h | h
    · exact ⟨Or.inl h, Nat.lt_of_lt_of_le (hW'.lt b h).2 k5.size⟩
    · exact ⟨Or.inr (hul b h).1, (hul b h).2⟩)
  have hrow : w5.ownsRow w.heap.size 22 1 (.slice (some ⟨gh, 0, none⟩) (L.length + 1) ch) (L.map Rec.v ++ [Value.slice none 0 0]).length (L.map Rec.v ++ [Value.slice none 0 0]) := F5.holds .hv
  have hlen : (L.map Rec.v ++ [Value.slice none 0 0]).length = L.length + 1 := by simp
  rw [hlen] at hrow
  have hset := (World.ownsRow.stored hrow L.length u).1
  have elist : (L.map Rec.v ++ [Value.slice none 0 0]).set L.length u = L.map Rec.v ++ [u] := by
    rw [List.set_append_right _ _ (by simp)]
    simp
  rw [elist] at hset
  have ks : Kept [gh] w5 (w5.setCell ⟨gh, L.length, none⟩ u) := (Kept.refl _ _).setCell (Or.inl (by simp)) _
  have hgl : gh < w5.heap.size := (World.ownsRow.lt hrow gh (by simp [Value.ownBlock])).2
  have F6 := F5.put .hv (rowT 22 w.heap.size (.slice (some ⟨gh, 0, none⟩) (L.length + 1) ch) (L.map Rec.v ++ [u])) ks (by
    show World.ownsRow _ _ _ _ _ _ _
    have e : (L.map Rec.v ++ [u]).length = L.length + 1 := by simp
    rw [e]
    exact hset) (fun b hb => by
    have e : b = gh := by simpa [rowT, Value.ownBlock] using hb
    subst e
    refine ⟨Or.inl ?_, Nat.lt_of_lt_of_le hgl ks.size⟩
    show b ∈ (Value.slice (some ⟨b, 0, none⟩) (L.length + 1) ch).ownBlock.toList
    simp [Value.ownBlock])
  refine ⟨S', F6.congr fun i => ?_⟩
  cases i with
  | sc => rfl
  | pv => simp [fset, famOf]
  | hv => simp [fset, famOf]
  | rv => rfl
  | du j =>
    by_cases hj : j = L.length
    · subst hj; simp [fset, famOf]
    · by_cases hlt : j < L.length
      · simp [fset, famOf, hj, List.getElem?_append_left hlt]
      · have h1 : L[j]? = none := List.getElem?_eq_none (by omega)
        have h2 : (L ++ [⟨wr.heap.size, u, us, S'⟩])[j]? = none := List.getElem?_eq_none (by simp; omega)
        simp [fset, famOf, hj, h1, h2]
  | rd j => rfl
end
end Go.Proofs.Ytnnbfdnkpohnfaa
