/-
  THE STORE in memory: a block with a map by ids, lists of bytes of its own behind them.
-/
import Derived.Test.YtmhbadkejhbbmaaGreatDoorSk0
namespace Go.Proofs.YtmhbadkejhbbmaaGreatDoor
open Go.RowKit Go.WideMaps

/-- The store in block s: its map in block b reads as D, of at most n entries. -/
structure St (w : World) (s b n : Nat) (D : DataW Unit) : Prop where
  blk : w.heap[s]? = some (.cells #[.map (some b)] 70 (0, 0))
  own : w.ownsMap Tryz.prog 29 slR b n D
  ne : s ≠ b
  lists : ∀ kl, Maps.has D kl = true → ∃ g c xs, D.atKey kl .nil = slD g xs.length c ∧ g ≠ b ∧ Octs xs ∧ xs.length ≤ 65536 ∧ BytesAt w (.slice (some ⟨g, 0, none⟩) xs.length c) xs
theorem idKey_lit (xs : List Int) : WideAt.IsKeyLit (idKey xs) := by
  unfold idKey
  trivial
section
variable {w w' : World} {s b n : Nat} {D : DataW Unit}
theorem St.on (h : St w s b n D) (k : Kept [] w w') : St w' s b n D := by
  obtain ⟨es, clock, hh, rest⟩ := h.own
  refine ⟨k.heap h.blk (by simp), ⟨es, clock, k.heap hh (by simp), rest⟩, h.ne, fun kl hk => ?_⟩
  obtain ⟨g, c, xs, h1, h2, h3, h4, h5⟩ := h.lists kl hk
  exact ⟨g, c, xs, h1, h2, h3, h4, h5.kept' k (fun _ _ _ => by simp)⟩
theorem St.lt (h : St w s b n D) : s < w.heap.size ∧ b < w.heap.size := ⟨(Array.getElem?_eq_some_iff.1 h.blk).1, h.own.lt⟩
theorem St.size (h : St w s b n D) : Maps.size D ≤ n := h.own.size_le
theorem Tryz.zeroB (w : World) : (zeroValue 33).run Tryz.prog w = .ok (.slice none 0 0) w := by kernel_rfl
/-- 'm[id]' with its ok. -/
theorem St.look (h : St w s b n D) {id : List Int} (hid : GoodID id) : ∃ v, (Instr.lookup 68 (.map (some b)) (.agg (idC id)) true).run Tryz.prog w = .ok (.tuple #[v, .bool (Maps.has D (idKey id))]) w ∧
    (Maps.has D (idKey id) = false → v = .slice none 0 0) ∧ (Maps.has D (idKey id) = true → ∃ g c xs, v = .slice (some ⟨g, 0, none⟩) xs.length c ∧ g ≠ b ∧ Octs xs ∧ xs.length ≤ 65536 ∧ BytesAt w (.slice (some ⟨g, 0, none⟩) xs.length c) xs) := by
  obtain ⟨v, ps, hrun, hv⟩ := h.own.look_ok Tryz.keyId Tryz.underlying68 (Tryz.zeroB w) slR_nil (key_id hid)
  refine ⟨v, hrun, fun hn => ?_, fun hy => ?_⟩
  · rw [Maps.atKey_of_not_has hn] at hv
    unfold slR at hv
    split at hv
    · simp [slD] at hv
    · rfl
    · cases hv
  · obtain ⟨g, c, xs, h1, h2, h3, h4, h5⟩ := h.lists _ hy
    rw [h1] at hv
    exact ⟨g, c, xs, slR_inv hv, h2, h3, h4, h5⟩
/-- 'm[id] = list', the list being new memory. -/
theorem St.put (h : St w s b n D) {id : List Int} (hid : GoodID id) (hn : n ≤ 1000000) {g c : Nat} {xs : List Int} (hg : g ≠ b) (ho : Octs xs) (hl : xs.length ≤ 65536) (hb : BytesAt w (.slice (some ⟨g, 0, none⟩) xs.length c) xs) :
    ∃ w', (Instr.mapUpdate 68 (.map (some b)) (.agg (idC id)) (.slice (some ⟨g, 0, none⟩) xs.length c)).run Tryz.prog w = .ok () w' ∧ St w' s b (n + 1) (D.put (idKey id) (slD g xs.length c)) ∧ Kept [b] w w' := by
  obtain ⟨w', hrun, hown, htu⟩ := h.own.store Tryz.keyId Tryz.underlying68 (by unfold maxLen; omega) (key_id hid) (slR_mk g xs.length c)
  have hk : Kept [b] w w' := (Kept.refl _ _).grown htu.grown (fun k hk => Or.inl (by simpa using hk.symm))
  refine ⟨w', hrun, ⟨hk.heap h.blk (by simp; exact h.ne), hown, h.ne, fun kl hy => ?_⟩, hk⟩
  by_cases e : kl = idKey id
  · subst e
    exact ⟨g, c, xs, Maps.atKey_put_same h.own.isMap (idKey_lit id) _ _, hg, ho, hl, hb.kept' hk (fun _ x hx hm => by
      obtain rfl : g = x := by simpa [blkOf] using hx
      exact hg (by simpa using hm))⟩
  · rw [Maps.has_put_other e] at hy
    obtain ⟨g', c', xs', h1, h2, h3, h4, h5⟩ := h.lists kl hy
    exact ⟨g', c', xs', by rw [Maps.atKey_put_other e]; exact h1, h2, h3, h4, h5.kept' hk (fun _ x hx hm => by
      obtain rfl : g' = x := by simpa [blkOf] using hx
      exact h2 (by simpa using hm))⟩
end
end Go.Proofs.YtmhbadkejhbbmaaGreatDoor
