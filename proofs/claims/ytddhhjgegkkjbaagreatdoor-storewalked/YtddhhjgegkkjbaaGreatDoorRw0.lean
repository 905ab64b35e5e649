/-
  THE STORE: its map by ids; what a key is.
  THE STORE in memory: a block with a map by ids, lists of bytes of its own behind them.
  A map by ids: each key is an id, and how many keys there are.
-/
import Derived.Test.YtddhhjgegkkjbaaGreatDoorSha2
import Derived.WideKeyPair
import Derived.Maps.OwnSet
import Derived.ChangeKeys
namespace Go.Proofs.YtddhhjgegkkjbaaGreatDoor
open Go.RowKit Go.WideMaps

theorem Tryz.arrId : ArrKey Tryz.prog 36 5 32 := ⟨Tryz.underlying36, by kernel_rfl, by kernel_rfl, by kernel_rfl⟩
theorem Tryz.typesPos : ∃ m, Tryz.prog.types.size = m + 1 := ⟨Tryz.prog.types.size - 1, by kernel_rfl⟩
theorem Tryz.keyId : Maps.Keyed Tryz.prog 36 := Maps.Keyed.of_law Tryz.arrId.law
theorem u8_lit {x : Int} (h0 : 0 ≤ x) (h1 : x ≤ 255) : (Lit.int .u8 x).wf = true := by
  have e1 : IntKind.u8.min = 0 := rfl
  have e2 : IntKind.u8.max = 255 := rfl
  simp only [Lit.wf, Bool.and_eq_true, decide_eq_true_eq, e1, e2]
  omega
theorem mapM_some {α β : Type} {f : α → Option β} {g : α → β} : ∀ l : List α, (∀ x, x ∈ l → f x = some (g x)) → l.mapM f = some (l.map g)
  | [], _ => rfl
  | a :: l, h => by
    rw [List.mapM_cons, h a (by simp), mapM_some l (fun x hx => h x (by simp [hx]))]
    rfl
/-- An id as a map's key. -/
def idKey (xs : List Int) : Lit := .string (keyBytes (xs.map (Lit.int .u8)))
theorem key_id {xs : List Int} (h : GoodID xs) : keyOf Tryz.prog 36 (.agg (idC xs)) = some (idKey xs) := by
  have A := Tryz.arrId
  have hkt := A.keyType Tryz.typesPos
  obtain ⟨m, hm⟩ := Tryz.typesPos
  have hsz : (idC xs).size = 32 := idC_size h.1
  unfold keyOf
  simp only [A.hu]
  rw [if_pos (by simp [hkt, Value.formed, A.hu, A.size, hsz]), hm]
  unfold Program.keyLits
  simp only [A.hu, Value.cells]
  rw [if_pos (by rw [A.size]; simpa using hsz)]
  have hel : ∀ i, i ∈ List.range 32 → Tryz.prog.keyLits (m + 1) 5 (((idC xs).toList.drop (i * Tryz.prog.cellsOf 5)).take (Tryz.prog.cellsOf 5)) = some [Lit.int .u8 (xs[i]?.getD 0)] := fun i hi => by
    have hi2 : i < xs.length := by rw [h.1]; simpa using hi
    have hb := h.2 xs[i] (List.getElem_mem hi2)
    rw [A.one, Nat.mul_one]
    have e : ((idC xs).toList.drop i).take 1 = [.int .u8 xs[i]] := by
      unfold idC
      rw [List.toList_toArray, List.drop_eq_getElem_cons (by rw [List.length_map]; exact hi2)]
      simp
    rw [e, List.getElem?_eq_getElem hi2]
    unfold Program.keyLits
    simp [Tryz.underlying5, u8_lit hb.1 hb.2]
  rw [mapM_some _ hel]
  refine congrArg (fun ls => some (Lit.string (keyBytes ls))) (?_ : ((List.range 32).map fun i => [Lit.int .u8 (xs[i]?.getD 0)]).flatten = xs.map (Lit.int .u8))
  refine List.ext_getElem? fun i => ?_
  have e2 : ((List.range 32).map fun i => [Lit.int .u8 (xs[i]?.getD 0)]).flatten = (List.range 32).map fun i => Lit.int .u8 (xs[i]?.getD 0) := by
    generalize List.range 32 = l
    induction l with
    | nil => rfl
    | cons a l ih => simp [ih]
  rw [e2, List.getElem?_map, List.getElem?_map]
  by_cases hi : i < 32
  · have hi2 : i < xs.length := by rw [h.1]; exact hi
    rw [List.getElem?_range hi, Option.map_some, List.getElem?_eq_getElem hi2]
    rfl
  · rw [List.getElem?_eq_none (by simp; omega), List.getElem?_eq_none (by rw [h.1]; omega)]
    rfl

/-- How a list that the store keeps is read. -/
def slD (g n c : Nat) : DataW Unit := .agg [.lit (.int .i64 g), .lit (.int .i64 n), .lit (.int .i64 c)]
def slR : Value → Option (DataW Unit × List MemPlace)
  | .slice (some ⟨g, 0, none⟩) n c => some (slD g n c, [])
  | .slice none 0 0 => some (.nil, [])
  | _ => none
theorem slR_mk (g n c : Nat) : slR (.slice (some ⟨g, 0, none⟩) n c) = some (slD g n c, []) := rfl
theorem slR_nil : slR (.slice none 0 0) = some (.nil, []) := rfl
theorem slR_inv {v : Value} {g n c : Nat} {ps : List MemPlace} (h : slR v = some (slD g n c, ps)) : v = .slice (some ⟨g, 0, none⟩) n c := by
  unfold slR at h
  split at h
  · rename_i g' n' c'
    simp only [Option.some.injEq, Prod.mk.injEq, slD, DataW.agg.injEq, List.cons.injEq, DataW.lit.injEq, Lit.int.injEq, and_true, true_and] at h
    obtain ⟨⟨h1, h2, h3⟩, _⟩ := h
    obtain rfl : g' = g := by omega
    obtain rfl : n' = n := by omega
    obtain rfl : c' = c := by omega
    rfl
  · simp [slD] at h
  · cases h
end Go.Proofs.YtddhhjgegkkjbaaGreatDoor

namespace Go.Proofs.YtddhhjgegkkjbaaGreatDoor
open Go.RowKit Go.WideMaps

/-- The store in block s: its map in block b reads as D, of at most n entries. -/
structure St (w : World) (s b n : Nat) (D : DataW Unit) : Prop where
  blk : w.heap[s]? = some (.cells #[.map (some b)] 71 (0, 0))
  own : w.ownsMap Tryz.prog 36 slR b n D
  ne : s ≠ b
  lists : ∀ kl, Maps.has D kl = true → ∃ g c xs, D.atKey kl .nil = slD g xs.length c ∧ g ≠ b ∧ Octs xs ∧ xs.length ≤ 65536 ∧ BytesAt w (.slice (some ⟨g, 0, none⟩) xs.length c) xs
theorem idKey_lit (xs : List Int) : WideAt.IsKeyLit (idKey xs) := by
  unfold idKey
  trivial
section
variable {w w' : World} {s b n : Nat} {D : DataW Unit}
theorem St.on (h : St w s b n D) (k : Kept [] w w') : St w' s b n D := by
  obtain ⟨es, clock, hh, rest⟩ := h.own
  refine ⟨k.heap h.blk (by simp), ⟨es, clock, k.heap hh (by simp), rest⟩, h.ne, fun kl hk => ?_⟩
  obtain ⟨g, c, xs, h1, h2, h3, h4, h5⟩ := h.lists kl hk
  exact ⟨g, c, xs, h1, h2, h3, h4, h5.kept' k (fun _ _ _ => by simp)⟩
theorem St.lt (h : St w s b n D) : s < w.heap.size ∧ b < w.heap.size := ⟨(Array.getElem?_eq_some_iff.1 h.blk).1, h.own.lt⟩
theorem St.size (h : St w s b n D) : Maps.size D ≤ n := h.own.size_le
theorem Tryz.zeroB (w : World) : (zeroValue 37).run Tryz.prog w = .ok (.slice none 0 0) w := by kernel_rfl
/-- 'm[id]' with its ok. -/
theorem St.look (h : St w s b n D) {id : List Int} (hid : GoodID id) : ∃ v, (Instr.lookup 69 (.map (some b)) (.agg (idC id)) true).run Tryz.prog w = .ok (.tuple #[v, .bool (Maps.has D (idKey id))]) w ∧
    (Maps.has D (idKey id) = false → v = .slice none 0 0) ∧ (Maps.has D (idKey id) = true → ∃ g c xs, v = .slice (some ⟨g, 0, none⟩) xs.length c ∧ g ≠ b ∧ Octs xs ∧ xs.length ≤ 65536 ∧ BytesAt w (.slice (some ⟨g, 0, none⟩) xs.length c) xs) := by
  obtain ⟨v, ps, hrun, hv⟩ := h.own.look_ok Tryz.keyId Tryz.underlying69 (Tryz.zeroB w) slR_nil (key_id hid)
  refine ⟨v, hrun, fun hn => ?_, fun hy => ?_⟩
  · rw [Maps.atKey_of_not_has hn] at hv
    unfold slR at hv
    split at hv
    · simp [slD] at hv
    · rfl
    · cases hv
  · obtain ⟨g, c, xs, h1, h2, h3, h4, h5⟩ := h.lists _ hy
    rw [h1] at hv
    exact ⟨g, c, xs, slR_inv hv, h2, h3, h4, h5⟩
/-- 'm[id] = list', the list being new memory. -/
theorem St.put (h : St w s b n D) {id : List Int} (hid : GoodID id) (hn : n ≤ 1000000) {g c : Nat} {xs : List Int} (hg : g ≠ b) (ho : Octs xs) (hl : xs.length ≤ 65536) (hb : BytesAt w (.slice (some ⟨g, 0, none⟩) xs.length c) xs) :
    ∃ w', (Instr.mapUpdate 69 (.map (some b)) (.agg (idC id)) (.slice (some ⟨g, 0, none⟩) xs.length c)).run Tryz.prog w = .ok () w' ∧ St w' s b (n + 1) (D.put (idKey id) (slD g xs.length c)) ∧ Kept [b] w w' := by
  obtain ⟨w', hrun, hown, htu⟩ := h.own.store Tryz.keyId Tryz.underlying69 (by unfold maxLen; omega) (key_id hid) (slR_mk g xs.length c)
  have hk : Kept [b] w w' := (Kept.refl _ _).grown htu.grown (fun k hk => Or.inl (by simpa using hk.symm))
  refine ⟨w', hrun, ⟨hk.heap h.blk (by simp; exact h.ne), hown, h.ne, fun kl hy => ?_⟩, hk⟩
  by_cases e : kl = idKey id
  · subst e
    exact ⟨g, c, xs, Maps.atKey_put_same h.own.isMap (idKey_lit id) _ _, hg, ho, hl, hb.kept' hk (fun _ x hx hm => by
      obtain rfl : g = x := by simpa [blkOf] using hx
      exact hg (by simpa using hm))⟩
  · rw [Maps.has_put_other e] at hy
    obtain ⟨g', c', xs', h1, h2, h3, h4, h5⟩ := h.lists kl hy
    exact ⟨g', c', xs', by rw [Maps.atKey_put_other e]; exact h1, h2, h3, h4, h5.kept' hk (fun _ x hx hm => by
      obtain rfl : g' = x := by simpa [blkOf] using hx
      exact h2 (by simpa using hm))⟩
/-- 'delete(m, id)'. -/
theorem St.del (h : St w s b n D) {id : List Int} (hid : GoodID id) (ty : TypeId) :
    ∃ w', (Builtin.delete_ #[69, 36] ty #[.map (some b), .agg (idC id)]).run Tryz.prog w = .ok (.tuple #[]) w' ∧ St w' s b n (D.del (idKey id)) ∧ Kept [b] w w' := by
  obtain ⟨w', hrun, hown, htu⟩ := h.own.drop Tryz.keyId Tryz.underlying69 (key_id hid) ty
  have hk : Kept [b] w w' := (Kept.refl _ _).grown htu.grown (fun k hk => Or.inl (by simpa using hk.symm))
  refine ⟨w', hrun, ⟨hk.heap h.blk (by simp; exact h.ne), hown, h.ne, fun kl hy => ?_⟩, hk⟩
  by_cases e : kl = idKey id
  · subst e
    rw [Maps.has_del_same] at hy
    cases hy
  · rw [Maps.has_del_other e] at hy
    obtain ⟨g', c', xs', h1, h2, h3, h4, h5⟩ := h.lists kl hy
    exact ⟨g', c', xs', by rw [Maps.atKey_del_other e]; exact h1, h2, h3, h4, h5.kept' hk (fun _ x hx hm => by
      obtain rfl : g' = x := by simpa [blkOf] using hx
      exact h2 (by simpa using hm))⟩
end
end Go.Proofs.YtddhhjgegkkjbaaGreatDoor

namespace Go.Proofs.YtddhhjgegkkjbaaGreatDoor
open Go.RowKit Go.WideMaps

theorem mapM_all {α β : Type} {f : α → Option β} : ∀ {l : List α} {r : List β}, l.mapM f = some r → ∀ x, x ∈ l → ∃ y, f x = some y
  | [], _, _, _, hx => by cases hx
  | a :: l, r, h, x, hx => by
    rw [List.mapM_cons] at h
    cases ha : f a with
    | none => rw [ha] at h; cases h
    | some y =>
      rw [ha] at h
      cases hl : l.mapM f with
      | none => rw [hl] at h; cases h
      | some ys =>
        rcases List.mem_cons.1 hx with rfl | hx
        · exact ⟨y, ha⟩
        · exact mapM_all hl x hx
def u8Of : Value → Int
  | .int _ x => x
  | _ => 0
theorem key_id_inv {key : Value} {kl : Lit} (h : keyOf Tryz.prog 36 key = some kl) : ∃ id, GoodID id ∧ key = .agg (idC id) ∧ kl = idKey id := by
  have A := Tryz.arrId
  obtain ⟨m, hm⟩ := Tryz.typesPos
  have h0 := h
  unfold keyOf at h
  simp only [A.hu] at h
  split at h
  · rename_i hc
    simp only [Bool.and_eq_true] at hc
    obtain ⟨cs, rfl⟩ : ∃ cs, key = .agg cs := by
      have hf := hc.2
      cases key <;> simp [Value.formed, A.hu] at hf
      exact ⟨_, rfl⟩
    have hsz : cs.size = 32 := by have hf := hc.2; simpa [Value.formed, A.hu, A.size] using hf
    rw [hm] at h
    obtain ⟨ls, hls, _⟩ := Option.map_eq_some_iff.1 h
    unfold Program.keyLits at hls
    simp only [A.hu, Value.cells] at hls
    rw [if_pos (by rw [A.size]; simpa using hsz)] at hls
    obtain ⟨lls, has, _⟩ := Option.map_eq_some_iff.1 hls
    have hcell : ∀ i (hi : i < cs.size), ∃ x, cs[i] = .int .u8 x ∧ 0 ≤ x ∧ x ≤ 255 := fun i hi => by
      obtain ⟨y, hy⟩ := mapM_all has i (by simp; omega)
      rw [A.one, Nat.mul_one] at hy
      have e : (cs.toList.drop i).take 1 = [cs[i]] := by
        rw [List.drop_eq_getElem_cons (by simpa using hi)]; simp
      rw [e] at hy
      unfold Program.keyLits at hy
      simp only [Tryz.underlying5] at hy
      generalize cs[i] = v at hy
      cases v <;> simp at hy
      obtain ⟨⟨rfl, hw⟩, _⟩ := hy
      refine ⟨_, rfl, ?_⟩
      have e1 : IntKind.u8.min = 0 := rfl
      have e2 : IntKind.u8.max = 255 := rfl
      simp only [Lit.wf, Bool.and_eq_true, decide_eq_true_eq, e1, e2] at hw
      exact hw
    have hid : idC (cs.toList.map u8Of) = cs := by
      apply Array.ext
      · simp [idC]
      · intro i h1 h2
        obtain ⟨x, hx, _⟩ := hcell i h2
        simp [idC, hx, u8Of]
    have hg : GoodID (cs.toList.map u8Of) := by
      refine ⟨by simpa using hsz, fun x hx => ?_⟩
      obtain ⟨v, hv, rfl⟩ := List.mem_map.1 hx
      obtain ⟨i, hi, rfl⟩ := List.getElem_of_mem hv
      obtain ⟨y, hy, hb⟩ := hcell i (by simpa using hi)
      rw [Array.getElem_toList, hy]
      exact hb
    refine ⟨cs.toList.map u8Of, hg, by rw [hid], ?_⟩
    have h1 := key_id hg
    rw [hid, h0] at h1
    injection h1
  · cases h
theorem alike_ints : ∀ xs ys : List Int, xs.length = ys.length → Alike (xs.map (Lit.int .u8)) (ys.map (Lit.int .u8))
  | [], [], _ => trivial
  | [], _ :: _, h => by simp at h
  | _ :: _, [], h => by simp at h
  | _ :: xs, _ :: ys, h => ⟨rfl, alike_ints xs ys (by simpa using h)⟩
theorem idKey_inj {xs ys : List Int} (hx : GoodID xs) (hy : GoodID ys) (h : idKey xs = idKey ys) : xs = ys := by
  unfold idKey at h
  injection h with h
  have wf : ∀ zs : List Int, GoodID zs → ∀ a, a ∈ zs.map (Lit.int .u8) → a.keyWf := fun zs hz a ha => by
    obtain ⟨x, hx, rfl⟩ := List.mem_map.1 ha
    exact u8_lit (hz.2 x hx).1 (hz.2 x hx).2
  have h1 := keyBytes_inj (alike_ints xs ys (hx.1.trans hy.1.symm)) (wf xs hx) (wf ys hy) h
  exact List.map_inj_right (fun a b hab => by injection hab) |>.1 h1
theorem nodup_le {α : Type} [DecidableEq α] : ∀ {l l' : List α}, l.Pairwise (· ≠ ·) → (∀ x, x ∈ l → x ∈ l') → l.length ≤ l'.length
  | [], _, _, _ => Nat.zero_le _
  | a :: l, l', hp, h => by
    obtain ⟨h1, h2⟩ := List.pairwise_cons.1 hp
    have ha : a ∈ l' := h a (by simp)
    have := nodup_le (l' := l'.erase a) h2 (fun x hx => (List.mem_erase_of_ne (fun e => h1 x hx e.symm)).2 (h x (by simp [hx])))
    rw [List.length_erase_of_mem ha] at this
    have hpos := List.length_pos_of_mem ha
    simp only [List.length_cons]
    omega
theorem has_mem {es : List (Lit × DataW Unit)} {k : Lit} (h : Maps.has (.map es) k = true) : k ∈ es.map (·.1) := by
  simp only [Maps.has, List.any_eq_true] at h
  obtain ⟨p, hp, hs⟩ := h
  exact List.mem_map.2 ⟨p, hp, WideAt.sameKey_eq hs⟩
theorem mem_has {es : List (Lit × DataW Unit)} (hk : ∀ p, p ∈ es → WideAt.IsKeyLit p.1) {k : Lit} (h : k ∈ es.map (·.1)) : Maps.has (.map es) k = true := by
  obtain ⟨p, hp, rfl⟩ := List.mem_map.1 h
  simp only [Maps.has, List.any_eq_true]
  exact ⟨p, hp, WideAt.sameKey_self (hk p hp)⟩
/-- A list of all keys, each once, is as long as the map. -/
theorem keys_len {w : World} {b n : Nat} {D : DataW Unit} (h : w.ownsMap Tryz.prog 36 slR b n D) (ks : List (List Int)) (hg : ∀ k, k ∈ ks → GoodID k) (hp : ks.Pairwise (· ≠ ·)) (h1 : ∀ k, k ∈ ks → Maps.has D (idKey k) = true) (h2 : ∀ kl, Maps.has D kl = true → ∃ k, k ∈ ks ∧ kl = idKey k) : ks.length = Maps.size D := by
  classical
  obtain ⟨es, rfl, hd, hk⟩ := h.entries Tryz.keyId
  have p1 : (ks.map idKey).Pairwise (· ≠ ·) := by
    rw [List.pairwise_map]
    refine List.Pairwise.imp_of_mem (fun {a c} ha hc hne e => hne (idKey_inj (hg a ha) (hg c hc) e)) hp
  have p2 : (es.map (·.1)).Pairwise (· ≠ ·) := by rw [List.pairwise_map]; exact hd
  have l1 := nodup_le p1 (l' := es.map (·.1)) (fun x hx => by
    obtain ⟨k, hk', rfl⟩ := List.mem_map.1 hx
    exact has_mem (h1 k hk'))
  have l2 := nodup_le p2 (l' := ks.map idKey) (fun x hx => by
    obtain ⟨k, hk', rfl⟩ := h2 x (mem_has hk hx)
    exact List.mem_map.2 ⟨k, hk', rfl⟩)
  simp only [List.length_map] at l1 l2
  show ks.length = es.length
  omega
end Go.Proofs.YtddhhjgegkkjbaaGreatDoor
