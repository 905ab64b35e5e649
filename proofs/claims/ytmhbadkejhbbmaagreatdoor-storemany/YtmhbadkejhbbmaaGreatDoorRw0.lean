/-
  A map by ids: each key is an id, and how many keys there are.
-/
import Derived.Test.YtmhbadkejhbbmaaGreatDoorSk1
import Derived.ChangeKeys
namespace Go.Proofs.YtmhbadkejhbbmaaGreatDoor
open Go.RowKit Go.WideMaps

theorem mapM_all {α β : Type} {f : α → Option β} : ∀ {l : List α} {r : List β}, l.mapM f = some r → ∀ x, x ∈ l → ∃ y, f x = some y
  | [], _, _, _, hx => by cases hx
  | a :: l, r, h, x, hx => by
    rw [List.mapM_cons] at h
    cases ha : f a with
    | none => rw [ha] at h; cases h
    | some y =>
      rw [ha] at h
      cases hl : l.mapM f with
      | none => rw [hl] at h; cases h
      | some ys =>
        rcases List.mem_cons.1 hx with rfl | hx
        · exact ⟨y, ha⟩
        · exact mapM_all hl x hx
def u8Of : Value → Int
  | .int _ x => x
  | _ => 0
theorem key_id_inv {key : Value} {kl : Lit} (h : keyOf Tryz.prog 29 key = some kl) : ∃ id, GoodID id ∧ key = .agg (idC id) ∧ kl = idKey id := by
  have A := Tryz.arrId
  obtain ⟨m, hm⟩ := Tryz.typesPos
  have h0 := h
  unfold keyOf at h
  simp only [A.hu] at h
  split at h
  · rename_i hc
    simp only [Bool.and_eq_true] at hc
    obtain ⟨cs, rfl⟩ : ∃ cs, key = .agg cs := by
      have hf := hc.2
      cases key <;> simp [Value.formed, A.hu] at hf
      exact ⟨_, rfl⟩
    have hsz : cs.size = 32 := by have hf := hc.2; simpa [Value.formed, A.hu, A.size] using hf
    rw [hm] at h
    obtain ⟨ls, hls, _⟩ := Option.map_eq_some_iff.1 h
    unfold Program.keyLits at hls
    simp only [A.hu, Value.cells] at hls
    rw [if_pos (by rw [A.size]; simpa using hsz)] at hls
    obtain ⟨lls, has, _⟩ := Option.map_eq_some_iff.1 hls
    have hcell : ∀ i (hi : i < cs.size), ∃ x, cs[i] = .int .u8 x ∧ 0 ≤ x ∧ x ≤ 255 := fun i hi => by
      obtain ⟨y, hy⟩ := mapM_all has i (by simp; omega)
      rw [A.one, Nat.mul_one] at hy
      have e : (cs.toList.drop i).take 1 = [cs[i]] := by
        rw [List.drop_eq_getElem_cons (by simpa using hi)]; simp
      rw [e] at hy
      unfold Program.keyLits at hy
      simp only [Tryz.underlying5] at hy
      generalize cs[i] = v at hy
      cases v <;> simp at hy
      obtain ⟨⟨rfl, hw⟩, _⟩ := hy
      refine ⟨_, rfl, ?_⟩
      have e1 : IntKind.u8.min = 0 := rfl
      have e2 : IntKind.u8.max = 255 := rfl
      simp only [Lit.wf, Bool.and_eq_true, decide_eq_true_eq, e1, e2] at hw
      exact hw
    have hid : idC (cs.toList.map u8Of) = cs := by
      apply Array.ext
      · simp [idC]
      · intro i h1 h2
        obtain ⟨x, hx, _⟩ := hcell i h2
        simp [idC, hx, u8Of]
    have hg : GoodID (cs.toList.map u8Of) := by
      refine ⟨by simpa using hsz, fun x hx => ?_⟩
      obtain ⟨v, hv, rfl⟩ := List.mem_map.1 hx
      obtain ⟨i, hi, rfl⟩ := List.getElem_of_mem hv
      obtain ⟨y, hy, hb⟩ := hcell i (by simpa using hi)
      rw [Array.getElem_toList, hy]
      exact hb
    refine ⟨cs.toList.map u8Of, hg, by rw [hid], ?_⟩
    have h1 := key_id hg
    rw [hid, h0] at h1
    injection h1
  · cases h
theorem alike_ints : ∀ xs ys : List Int, xs.length = ys.length → Alike (xs.map (Lit.int .u8)) (ys.map (Lit.int .u8))
  | [], [], _ => trivial
  | [], _ :: _, h => by simp at h
  | _ :: _, [], h => by simp at h
  | _ :: xs, _ :: ys, h => ⟨rfl, alike_ints xs ys (by simpa using h)⟩
theorem idKey_inj {xs ys : List Int} (hx : GoodID xs) (hy : GoodID ys) (h : idKey xs = idKey ys) : xs = ys := by
  unfold idKey at h
  injection h with h
  have wf : ∀ zs : List Int, GoodID zs → ∀ a, a ∈ zs.map (Lit.int .u8) → a.keyWf := fun zs hz a ha => by
    obtain ⟨x, hx, rfl⟩ := List.mem_map.1 ha
    exact u8_lit (hz.2 x hx).1 (hz.2 x hx).2
  have h1 := keyBytes_inj (alike_ints xs ys (hx.1.trans hy.1.symm)) (wf xs hx) (wf ys hy) h
  exact List.map_inj_right (fun a b hab => by injection hab) |>.1 h1
theorem nodup_le {α : Type} [DecidableEq α] : ∀ {l l' : List α}, l.Pairwise (· ≠ ·) → (∀ x, x ∈ l → x ∈ l') → l.length ≤ l'.length
  | [], _, _, _ => Nat.zero_le _
  | a :: l, l', hp, h => by
    obtain ⟨h1, h2⟩ := List.pairwise_cons.1 hp
    have ha : a ∈ l' := h a (by simp)
    have := nodup_le (l' := l'.erase a) h2 (fun x hx => (List.mem_erase_of_ne (fun e => h1 x hx e.symm)).2 (h x (by simp [hx])))
    rw [List.length_erase_of_mem ha] at this
    have hpos := List.length_pos_of_mem ha
    simp only [List.length_cons]
    omega
theorem has_mem {es : List (Lit × DataW Unit)} {k : Lit} (h : Maps.has (.map es) k = true) : k ∈ es.map (·.1) := by
  simp only [Maps.has, List.any_eq_true] at h
  obtain ⟨p, hp, hs⟩ := h
  exact List.mem_map.2 ⟨p, hp, WideAt.sameKey_eq hs⟩
theorem mem_has {es : List (Lit × DataW Unit)} (hk : ∀ p, p ∈ es → WideAt.IsKeyLit p.1) {k : Lit} (h : k ∈ es.map (·.1)) : Maps.has (.map es) k = true := by
  obtain ⟨p, hp, rfl⟩ := List.mem_map.1 h
  simp only [Maps.has, List.any_eq_true]
  exact ⟨p, hp, WideAt.sameKey_self (hk p hp)⟩
/-- A list of all keys, each once, is as long as the map. -/
theorem keys_len {w : World} {b n : Nat} {D : DataW Unit} (h : w.ownsMap Tryz.prog 29 slR b n D) (ks : List (List Int)) (hg : ∀ k, k ∈ ks → GoodID k) (hp : ks.Pairwise (· ≠ ·)) (h1 : ∀ k, k ∈ ks → Maps.has D (idKey k) = true) (h2 : ∀ kl, Maps.has D kl = true → ∃ k, k ∈ ks ∧ kl = idKey k) : ks.length = Maps.size D := by
  classical
  obtain ⟨es, rfl, hd, hk⟩ := h.entries Tryz.keyId
  have p1 : (ks.map idKey).Pairwise (· ≠ ·) := by
    rw [List.pairwise_map]
    refine List.Pairwise.imp_of_mem (fun {a c} ha hc hne e => hne (idKey_inj (hg a ha) (hg c hc) e)) hp
  have p2 : (es.map (·.1)).Pairwise (· ≠ ·) := by rw [List.pairwise_map]; exact hd
  have l1 := nodup_le p1 (l' := es.map (·.1)) (fun x hx => by
    obtain ⟨k, hk', rfl⟩ := List.mem_map.1 hx
    exact has_mem (h1 k hk'))
  have l2 := nodup_le p2 (l' := ks.map idKey) (fun x hx => by
    obtain ⟨k, hk', rfl⟩ := h2 x (mem_has hk hx)
    exact List.mem_map.2 ⟨k, hk', rfl⟩)
  simp only [List.length_map] at l1 l2
  show ks.length = es.length
  omega
end Go.Proofs.YtmhbadkejhbbmaaGreatDoor
