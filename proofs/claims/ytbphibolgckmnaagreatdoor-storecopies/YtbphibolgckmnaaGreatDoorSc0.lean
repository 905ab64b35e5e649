/-
  APPEND of a whole list of structs of k cells to a list of one's own.
  WALK: satchelref0.EqIDs, of two lists that tell the same; what two stores of the same ids tell.
  A STORE AND ITS COPY: what a law over both keeps.
-/
import Derived.Test.YtbphibolgckmnaaGreatDoorRt1
import Derived.Laws.AppendOwnNone
import Derived.Test.YtbphibolgckmnaaGreatDoorIds1
import Derived.Test.YtbphibolgckmnaaGreatDoorLookFixed
import Derived.Test.YtbphibolgckmnaaGreatDoorFl0
import Derived.Test.YtbphibolgckmnaaGreatDoorCp1
import Derived.Test.YtbphibolgckmnaaGreatDoorCl0
namespace Go.Proofs.YtbphibolgckmnaaGreatDoor
open Go.RowKit

theorem IdsAt.rows {w : World} {v : Value} {ids : List (List Int)} : IdsAt w v ids ↔ RowsAt w v 32 (ids.map fun x => x.map (Value.int .u8)) := by
  constructor
  · rintro ⟨ao, cap, rfl, h1, h0, h2, hc⟩
    refine ⟨ao, cap, by rw [List.length_map], by rw [List.length_map]; exact h1, h0, by rw [List.length_map]; exact h2, fun hne => ?_⟩
    obtain ⟨b, off, hb, hh⟩ := hc (by simpa using hne)
    refine ⟨b, off, hb, fun i cs hi => ?_⟩
    rw [List.getElem?_map] at hi
    obtain ⟨x, hx, rfl⟩ := Option.map_eq_some_iff.1 hi
    exact hh i x hx
  · rintro ⟨ao, cap, rfl, h1, h0, h2, hc⟩
    rw [List.length_map] at h1 h2
    refine ⟨ao, cap, by rw [List.length_map], h1, h0, h2, fun hne => ?_⟩
    obtain ⟨b, off, hb, hh⟩ := hc (by simpa using hne)
    exact ⟨b, off, hb, fun i x hx => hh i _ (by rw [List.getElem?_map, hx]; rfl)⟩
end Go.Proofs.YtbphibolgckmnaaGreatDoor

namespace Go.Proofs.YtbphibolgckmnaaGreatDoor
open Go.RowKit

theorem IdOwn.at {w : World} {B : Nat} {v : Value} {ids : List (List Int)} (h : IdOwn w B v ids) (hg : ∀ id, id ∈ ids → GoodID id) (hn : ids.length ≤ 140737488351232) : IdsAt w v ids := by
  refine IdsAt.rows.2 (ownsK_rows (B := B) (e := 29) (by decide) (fun r hr => ?_) ?_ (by rw [List.length_map]; exact hn))
  · obtain ⟨id, hid, rfl⟩ := List.mem_map.1 hr
    rw [List.length_map]
    exact (hg id hid).1
  · rw [List.length_map]
    exact h
theorem IdsAt.onK {w w' : World} {v : Value} {ids : List (List Int)} (h : IdsAt w v ids) (k : Kept [] w w') : IdsAt w' v ids := h.keep k (fun _ _ _ => by simp)
/-- Two sorted lists of the same ids are one. -/
theorem sorted_uniq : ∀ {L M : List (List Int)}, SortedIds L → SortedIds M → (∀ x, x ∈ L ↔ x ∈ M) → L = M
  | [], [], _, _, _ => rfl
  | [], y :: M, _, _, h => absurd ((h y).2 (by simp)) (by simp)
  | x :: L, [], _, _, h => absurd ((h x).1 (by simp)) (by simp)
  | x :: L, y :: M, hL, hM, h => by
    have hL' := List.pairwise_cons.1 hL
    have hM' := List.pairwise_cons.1 hM
    have e : x = y := by
      rcases List.mem_cons.1 ((h x).1 (by simp)) with e | hx
      · exact e
      · rcases List.mem_cons.1 ((h y).2 (by simp)) with e | hy
        · exact e.symm
        · have h1 := hM'.1 x hx
          have h2 := hL'.1 y hy
          have h3 := cmpB_trans _ _ _ h1 h2
          exact absurd h3 (cmpB_self y)
    subst e
    have t : L = M := sorted_uniq hL'.2 hM'.2 (fun z => by
      have hz := h z
      constructor
      · intro hzl
        rcases List.mem_cons.1 (hz.1 (List.mem_cons_of_mem _ hzl)) with e | q
        · subst e
          exact absurd (hL'.1 _ hzl) (cmpB_self _)
        · exact q
      · intro hzm
        rcases List.mem_cons.1 (hz.2 (List.mem_cons_of_mem _ hzm)) with e | q
        · subst e
          exact absurd (hM'.1 _ hzm) (cmpB_self _)
        · exact q)
    rw [t]
theorem IdsOf.uniq {D D2 : DataW Unit} {L M : List (List Int)} (h : IdsOf D L) (h2 : IdsOf D2 M) (e : ∀ kl, Maps.has D2 kl = Maps.has D kl) : L = M :=
  sorted_uniq h.sorted h2.sorted (fun x => by
    constructor
    · intro hx
      have := (h.mem x hx).2
      rw [← e] at this
      obtain ⟨y, hy, ey⟩ := h2.all _ this
      rw [idKey_inj (h.mem x hx).1 (h2.mem y hy).1 ey]
      exact hy
    · intro hx
      have := (h2.mem x hx).2
      rw [e] at this
      obtain ⟨y, hy, ey⟩ := h.all _ this
      rw [idKey_inj (h2.mem x hx).1 (h.mem y hy).1 ey]
      exact hy)
set_option maxRecDepth 100000 in
set_option maxHeartbeats 2000000 in
theorem EqIDs_same (v1 v2 : Value) (ks : List (List Int)) (w : World) (h1 : IdsAt w v1 ks) (h2 : IdsAt w v2 ks) (hg : ∀ k, k ∈ ks → k.length = 32) :
    Calls Tryz.prog 20 #[v1, v2] w fun e w' => e = .returned (.bool true) ∧ Kept [] w w' := by
  have HN1 : Hid (∀ W, Kept [] w W → IdsAt W v1 ks) := fun W k => h1.onK k
  have HN2 : Hid (∀ W, Kept [] w W → IdsAt W v2 ks) := fun W k => h2.onK k
  have HG : Hid (∀ k, k ∈ ks → k.length = 32) := hg
  obtain ⟨a1, c1, rfl, hc1, _, hl1, _⟩ := h1
  obtain ⟨a2, c2, rfl, hc2, _, hl2, _⟩ := h2
  have hue := Tryz.underlying29
  clear hg
  go_enter Tryz.func20, Tryz.ntmps20
  go_wp2
  go_loopw [5] (fun s5 wr => ∃ k : Nat, k ≤ ks.length ∧ s5 = .int .i64 k ∧ Hid (Kept [] w wr)) (fun s5 _ => ks.length - (intOf s5).toNat)
  case atStart => exact ⟨0, Nat.zero_le _, rfl, Kept.refl _ _⟩
  case round =>
    obtain ⟨k, hk, rfl, HK⟩ := hrel
    by_cases hlt : k < ks.length
    · obtain ⟨x, hx⟩ : ∃ x, ks[k]? = some x := ⟨_, List.getElem?_eq_getElem hlt⟩
      have hgx := HG.out x (List.mem_of_getElem? hx)
      obtain ⟨ao', cap', he, _, _, _, hc⟩ := HN1.out wr HK.out
      injection he with e1 e2 e3
      subst e1 e3
      obtain ⟨b1', off1, rfl, hh1⟩ := hc (by intro e; rw [e] at hlt; simp at hlt)
      obtain ⟨ao', cap', he, _, _, _, hc⟩ := HN2.out wr HK.out
      injection he with e1 e2 e3
      subst e1 e3
      obtain ⟨b2', off2, rfl, hh2⟩ := hc (by intro e; rw [e] at hlt; simp at hlt)
      have hso : (Tryz.prog.info? 29).map (·.size) = some (x.map (Value.int .u8)).length := by rw [List.length_map, hgx]; exact Tryz.infoID
      have heqf : ∀ W, (Op.equalIn 10000 29 (.agg (x.map (Value.int .u8)).toArray) (.agg (x.map (Value.int .u8)).toArray)).run Tryz.prog W = .ok true W := fun W => by
        have h := idEq x x W hgx hgx
        rw [decide_eq_true rfl] at h
        exact h
      have HR1 : Hid (∀ W, Kept [] wr W → W.rangeAt b1' (off1 + k * 32) (x.map (Value.int .u8))) := fun W hW => range_kept (hh1 k x hx) hW (by simp)
      have HR2 : Hid (∀ W, Kept [] wr W → W.rangeAt b2' (off2 + k * 32) (x.map (Value.int .u8))) := fun W hW => range_kept (hh2 k x hx) hW (by simp)
      have HKK : Hid (∀ W, Kept [] wr W → Kept [] w W) := fun W hW => HK.out.then hW
      clear hh1 hh2 hc hx hgx
      generalize x.map (Value.int .u8) = xr at *
      go_wp2_with fail
      refine region_quiet (Kept [] wr) (by kernel_rfl) (by kernel_rfl) (Kept.refl [] wr).drew ?_
      refine quiet_move (by rfl) (.tmp 0) rfl (.slice (some ⟨b1', off1, none⟩) ks.length c1) rfl ?_
      simp only [Act.put, List.setIfInBounds_toArray, List.set_cons_zero, List.set_cons_succ]
      refine quiet_move (by rfl) (.tmp 5) rfl (.int .i64 k) rfl ?_
      simp only [Act.put, List.setIfInBounds_toArray, List.set_cons_zero, List.set_cons_succ]
      refine quiet_val (by rfl) (.pointer (some ⟨b1', off1 + k * 32, none⟩)) (fun W => by go_simp) ?_
      simp only [Act.put, List.setIfInBounds_toArray, List.set_cons_zero, List.set_cons_succ]
      refine quiet_row (by rfl) _ _ rfl b1' (off1 + k * 32) rfl xr _ HR1.out hue rfl hso ?_
      simp only [Act.put, List.setIfInBounds_toArray, List.set_cons_zero, List.set_cons_succ]
      refine quiet_move (by rfl) (.tmp 1) rfl (.slice (some ⟨b2', off2, none⟩) ks.length c2) rfl ?_
      simp only [Act.put, List.setIfInBounds_toArray, List.set_cons_zero, List.set_cons_succ]
      refine quiet_move (by rfl) (.tmp 5) rfl (.int .i64 k) rfl ?_
      simp only [Act.put, List.setIfInBounds_toArray, List.set_cons_zero, List.set_cons_succ]
      refine quiet_val (by rfl) (.pointer (some ⟨b2', off2 + k * 32, none⟩)) (fun W => by go_simp) ?_
      simp only [Act.put, List.setIfInBounds_toArray, List.set_cons_zero, List.set_cons_succ]
      refine quiet_row (by rfl) _ _ rfl b2' (off2 + k * 32) rfl xr _ HR2.out hue rfl hso ?_
      simp only [Act.put, List.setIfInBounds_toArray, List.set_cons_zero, List.set_cons_succ]
      refine quiet_neq (by rfl) (.tmp 20) (.tmp 24) _ rfl _ _ rfl rfl true heqf ?_
      simp only [Act.put, List.setIfInBounds_toArray, List.set_cons_zero, List.set_cons_succ]
      refine wpQuiet_nil fun w3 hk3 => ?_
      have HK3 : Hid (Kept [] w w3) := HKK.out w3 hk3
      clear hk3 HR1 HR2 HKK
      go_wp2
      go_roundw
      case rel => exact ⟨k + 1, by omega, by go_num, HK3⟩
      case measure => simp [intOf]; omega
    · have tE : decide ((k : Int) < (ks.length : Int)) = false := decide_eq_false (by omega)
      have tE2 : ¬ k < ks.length := hlt
      go_wp2
      go_ret
      exact ⟨rfl, HK.out⟩
end Go.Proofs.YtbphibolgckmnaaGreatDoor

namespace Go.Proofs.YtbphibolgckmnaaGreatDoor
open Go.RowKit Go.WideMaps

/-- A map is no cells: no list lies in its block. -/
theorem St.map_ne {w : World} {s b n : Nat} {D : DataW Unit} (h : St w s b n D) {g c : Nat} {xs : List Int} (hb : BytesAt w (.slice (some ⟨g, 0, none⟩) xs.length c) xs) (hne : xs ≠ []) : g ≠ b := fun e => by
  obtain ⟨ao, cap, hv, _, _, hc⟩ := hb
  obtain ⟨b', off, rfl, hh⟩ := hc hne
  injection hv with hv _ _
  injection hv with hv
  injection hv with h1 h2 _
  subst h1 h2
  obtain ⟨x, r, rfl⟩ : ∃ x r, xs = x :: r := by cases xs with | nil => exact absurd rfl hne | cons x r => exact ⟨x, r, rfl⟩
  have h3 := hh 0 x rfl
  obtain ⟨es, clock, hm, _⟩ := h.own
  subst e
  simp [World.cell?, hm] at h3
theorem St.box_ne {w : World} {s b n : Nat} {D : DataW Unit} (h : St w s b n D) {s2 b2 n2 : Nat} {D2 : DataW Unit} (h2 : St w s2 b2 n2 D2) : s2 ≠ b := fun e => by
  obtain ⟨es, clock, hm, _⟩ := h.own
  have := h2.blk
  rw [e, hm] at this
  cases this
/-- Another store's map is written to. -/
theorem Fl.keepR [TabC] {w w' : World} {s b n r : Nat} {D : DataW Unit} (h : Fl w s b n D) (k : Kept [r] w w') (hs : s ≠ r) (hb : b ≠ r) (hl : ∀ g c xs, xs ≠ [] → BytesAt w (.slice (some ⟨g, 0, none⟩) xs.length c) xs → g ≠ r) : Fl w' s b n D := by
  refine ⟨h.st.keepR k hs hb (fun kl g m c hk he => ?_), fun kl hk => ?_⟩
  · obtain ⟨g', c', xs, h1, _, h3, _, h5⟩ := h.good kl hk
    obtain ⟨rfl, _, _⟩ := slD_inj (he.symm.trans h1)
    exact Or.inl (hl _ _ xs (par_ne h3) h5)
  · obtain ⟨g, c, xs, h1, h2, h3, h4, h5⟩ := h.good kl hk
    refine ⟨g, c, xs, h1, h2, h3, h4, h5.kept' k (fun hne x hx hm => ?_)⟩
    obtain rfl : g = x := by simpa [blkOf] using hx
    exact hl _ _ xs hne h5 (by simpa using hm)
/-- A store and a copy: of what the copy holds the store holds the same. -/
structure Duo [TabC] (w : World) (s b n : Nat) (D : DataW Unit) (s2 b2 n2 : Nat) (D2 : DataW Unit) : Prop where
  one : Fl w s b n D
  two : Fl w s2 b2 n2 D2
  ne : b ≠ b2
  tw : ∀ kl, Maps.has D2 kl = true → Maps.has D kl = true ∧ ∃ g c g2 c2 xs, Twins w D D2 kl g c g2 c2 xs ∧ parErr xs = 0
section
variable {w w' : World} {s b n : Nat} {D : DataW Unit} {s2 b2 n2 : Nat} {D2 : DataW Unit}
theorem Twins.on {kl : Lit} {g c g2 c2 : Nat} {xs : List Int} (h : Twins w D D2 kl g c g2 c2 xs) (k : Kept [] w w') : Twins w' D D2 kl g c g2 c2 xs := ⟨h.at1, h.at2, h.b1.kept' k (fun _ _ _ => by simp), h.b2.kept' k (fun _ _ _ => by simp)⟩
theorem Duo.on [TabC] (h : Duo w s b n D s2 b2 n2 D2) (k : Kept [] w w') : Duo w' s b n D s2 b2 n2 D2 :=
  ⟨h.one.on k, h.two.on k, h.ne, fun kl hk => by
    obtain ⟨h1, g, c, g2, c2, xs, h2, h3⟩ := h.tw kl hk
    exact ⟨h1, g, c, g2, c2, xs, h2.on k, h3⟩⟩
/-- What Copy answers. -/
theorem Duo.start [TabC] (h : Fl w s b n D) (h2 : St w s2 b2 n2 D2) (hne : b ≠ b2) (hh : ∀ kl, Maps.has D2 kl = Maps.has D kl) (ht : ∀ kl, Maps.has D kl = true → ∃ g c g2 c2 xs, Twins w D D2 kl g c g2 c2 xs) : Duo w s b n D s2 b2 n2 D2 := by
  have key : ∀ kl, Maps.has D2 kl = true → ∃ g c g2 c2 xs, Twins w D D2 kl g c g2 c2 xs ∧ kl = idKey (digL xs) ∧ parErr xs = 0 ∧ Octs xs := fun kl hk => by
    rw [hh] at hk
    obtain ⟨g, c, g2, c2, xs, t⟩ := ht kl hk
    obtain ⟨g', c', xs', q1, q2, q3, q4, q5⟩ := h.good kl hk
    obtain ⟨rfl, hl, rfl⟩ := slD_inj (t.at1.symm.trans q1)
    have hb := t.b1
    rw [hl] at hb
    obtain rfl : xs = xs' := hb.uniq q5
    exact ⟨g, c, g2, c2, xs, t, q2, q3, q4⟩
  refine ⟨h, ⟨h2, fun kl hk => ?_⟩, hne, fun kl hk => ?_⟩
  · obtain ⟨g, c, g2, c2, xs, t, q2, q3, q4⟩ := key kl hk
    exact ⟨g2, c2, xs, t.at2, q2, q3, q4, t.b2⟩
  · obtain ⟨g, c, g2, c2, xs, t, _, q3, _⟩ := key kl hk
    rw [hh] at hk
    exact ⟨hk, g, c, g2, c2, xs, t, q3⟩
/-- One more is put into the store. -/
theorem Duo.put [TabC] (h : Duo w s b n D s2 b2 n2 D2) (k : Kept [b] w w') {g c : Nat} {xs : List Int} (hnew : Maps.has D (idKey (digL xs)) = false) (hf : Fl w' s b (n + 1) (D.put (idKey (digL xs)) (slD g xs.length c))) : Duo w' s b (n + 1) (D.put (idKey (digL xs)) (slD g xs.length c)) s2 b2 n2 D2 := by
  refine ⟨hf, h.two.keepR k (h.one.st.box_ne h.two.st) (fun e => h.ne e.symm) (fun _ _ _ hne hb => h.one.st.map_ne hb hne), h.ne, fun kl hk => ?_⟩
  obtain ⟨h1, g', c', g2, c2, ys, t, h3⟩ := h.tw kl hk
  have hkl : kl ≠ idKey (digL xs) := fun e => by
    rw [e, hnew] at h1
    cases h1
  refine ⟨by rw [Maps.has_put_other hkl]; exact h1, g', c', g2, c2, ys, ⟨by rw [Maps.atKey_put_other hkl]; exact t.at1, t.at2, t.b1.kept' k (fun hne x hx hm => ?_), t.b2.kept' k (fun hne x hx hm => ?_)⟩, h3⟩
  · obtain rfl : g' = x := by simpa [blkOf] using hx
    exact h.one.st.map_ne t.b1 hne (by simpa using hm)
  · obtain rfl : g2 = x := by simpa [blkOf] using hx
    exact h.one.st.map_ne t.b2 hne (by simpa using hm)
/-- The copy is emptied. -/
theorem Fl.away [TabC] (h : Duo w s b n D s2 b2 n2 D2) (k : Kept [b2] w w') : Fl w' s b n D :=
  h.one.keepR k (h.two.st.box_ne h.one.st) h.ne (fun _ _ _ hne hb => h.two.st.map_ne hb hne)
end
end Go.Proofs.YtbphibolgckmnaaGreatDoor
