/-
  object.read of any tag's, commit's, tree's bytes, against the document's own.
  WALK: satchelref3.Same, of two commits that say the same.
  WALK: satchellaw3.wakes.
  WALK: object.read of bytes that begin with no kind; Parse of what is no encoding.
  WALKS: object.read of a blob's bytes, of bytes that are too long; of any bytes; object.objectOf of any content; object.Parse of any bytes.
-/
import Derived.Test.YtddhhjgegkkjbaaGreatDoorGp2
import Derived.Test.YtddhhjgegkkjbaaGreatDoorReadG
import Derived.Test.YtddhhjgegkkjbaaGreatDoorReadC
import Derived.Test.YtddhhjgegkkjbaaGreatDoorHdS
import Derived.Deep.RegionHeld
import Derived.Test.YtddhhjgegkkjbaaGreatDoorIdEq
import Derived.Test.YtddhhjgegkkjbaaGreatDoorRt1
namespace Go.Proofs.YtddhhjgegkkjbaaGreatDoor
open Go.RowKit

theorem parErr_kind [TabC] {xs : List Int} (h1 : ¬ 65536 < xs.length) (h2 : 1 ≤ xAt xs 0 ∧ xAt xs 0 ≤ 4) : parErr xs = if gOk xs = true then 0 else 37 := by
  unfold parErr
  rw [if_neg h1, if_neg (by simpa using h2)]
/-- What object.read answers. -/
def ReadA [TabC] (w : World) (xs : List Int) (e : Ending) (w' : World) : Prop :=
  Kept [] w w' ∧ (parErr xs ≠ 0 → e = .returned (.tuple #[.nilIface, .int .i64 (parErr xs)])) ∧
    (parErr xs = 0 → ∃ bv ev pv, e = .returned (.tuple #[conV (guessO xs bv ev pv), .int .i64 0]) ∧ ObjL.Good w' (guessO xs bv ev pv) ∧ ∀ b, (blkOf (guessO xs bv ev pv).bv = some b ∨ blkOf (guessO xs bv ev pv).ev = some b ∨ blkOf (guessO xs bv ev pv).pv = some b) → w.heap.size ≤ b)
theorem readA_bad [TabC] {w : World} {xs : List Int} {e : Ending} {w' : World} {n : Int} (hk : Kept [] w w') (hp : parErr xs = n) (hn : n ≠ 0) (he : e = .returned (.tuple #[.nilIface, .int .i64 n])) : ReadA w xs e w' :=
  ⟨hk, fun _ => by rw [hp]; exact he, fun h => absurd (hp.symm.trans h) hn⟩

theorem tag_iff [TabC] {xs : List Int} (ho : Octs xs) (hl : xs.length ≤ 65536) (hk : xAt xs 0 = 4) (hne : xs ≠ []) (y1 y2 y3 y4 y5 y6 : Took) (h1 : y1 = takeL xs 1 0 3 32 0) (h2 : y2 = takeL xs y1.pl y1.f 0 1 0) (h3 : y3 = takeL xs y2.pl y2.f 2 0 255) (h4 : y4 = takeL xs y3.pl y3.f 2 0 255) (h5 : y5 = takeL xs y4.pl y4.f 0 8 0) (h6 : y6 = takeL xs y5.pl y5.f 2 0 4096)
    (tg : TagL) (htg : tg = ⟨idOf y1.text, y2.n, y3.text, y4.text, y5.n, y6.text⟩) : (y6.f = 0 ∧ y6.pl = xs.length ∧ faultG tg = 0 ↔ gOk xs = true) ∧ (gOk xs = true → tg = gTag xs) := by
  have h0 := take_first ho hne
  have fwd : y6.f = 0 ∧ y6.pl = xs.length ∧ faultG tg = 0 → gOk xs = true ∧ tg = gTag xs := fun ⟨a, b, c⟩ => by
    have henc := tag_one_form ho _ y1 y2 y3 y4 y5 y6 rfl (by rw [h0]; exact hk) (by rw [h0]; exact h1) h2 h3 h4 h5 h6 a b
    rw [← htg] at henc
    have b5 := take_lt xs ho y4.pl y4.f 8
    have c5 : 0 ≤ y5.n ∧ y5.n < 18446744073709551616 := by rw [h5]; exact b5
    obtain ⟨f1, f2, f3, f4, f5⟩ := faultG_zero c
    have hfit : tg.Fit := ⟨by rw [htg]; exact idOf_len (by rw [h1]; exact raw32_len _ _ _), f1, f2, f3, f4, by rw [htg]; exact c5.1, by rw [htg]; show y5.n ≤ _; omega, f5⟩
    have hg := gTag_enc tg hfit
    rw [henc] at hg
    exact ⟨(gok_tag hk).2 (by rw [hg]; exact ⟨c, henc⟩), hg.symm⟩
  have bwd : gOk xs = true → y6.f = 0 ∧ y6.pl = xs.length ∧ faultG tg = 0 := fun h => by
    obtain ⟨hf, he⟩ := (gok_tag hk).1 h
    obtain ⟨z1, z2, z3, z4, z5, z6, _, e1, e2, e3, e4, e5, e6, et, ef, ep⟩ := tag_back (gTag xs) (tag_fit (gTag_good ho hl) hf)
    rw [he] at e1 e2 e3 e4 e5 e6 ep
    obtain rfl : y1 = z1 := h1.trans e1.symm
    obtain rfl : y2 = z2 := h2.trans e2.symm
    obtain rfl : y3 = z3 := h3.trans e3.symm
    obtain rfl : y4 = z4 := h4.trans e4.symm
    obtain rfl : y5 = z5 := h5.trans e5.symm
    obtain rfl : y6 = z6 := h6.trans e6.symm
    exact ⟨ef, ep, by rw [htg, ← et]; exact hf⟩
  exact ⟨⟨fun h => (fwd h).1, bwd⟩, fun h => (fwd (bwd h)).2⟩
theorem com_iff [TabC] {xs : List Int} (ho : Octs xs) (hl : xs.length ≤ 65536) (hk : xAt xs 0 = 3) (hne : xs ≠ []) (y1 y2 y3 y4 y5 : Took) (n : Nat) (h1 : y1 = takeL xs 1 0 3 32 0) (h2 : y2 = takeL xs y1.pl y1.f 1 0 8) (hn : y2.n = (n : Int)) (h3 : y3 = takeL xs (rdIs xs y2.pl y2.f n).2.1 (rdIs xs y2.pl y2.f n).2.2 2 0 255) (h4 : y4 = takeL xs y3.pl y3.f 0 8 0) (h5 : y5 = takeL xs y4.pl y4.f 2 0 4096)
    (cm : ComL) (hcm : cm = ⟨idOf y1.text, (rdIs xs y2.pl y2.f n).1, y3.text, y4.n, y5.text⟩) : (y5.f = 0 ∧ y5.pl = xs.length ∧ faultC cm = 0 ↔ gOk xs = true) ∧ (gOk xs = true → cm = gCom xs) := by
  have h0 := take_first ho hne
  have fwd : y5.f = 0 ∧ y5.pl = xs.length ∧ faultC cm = 0 → gOk xs = true ∧ cm = gCom xs := fun ⟨a, b, c⟩ => by
    have henc := com_one_form ho _ y1 y2 y3 y4 y5 n rfl (by rw [h0]; exact hk) (by rw [h0]; exact h1) h2 hn h3 h4 h5 a b
    rw [← hcm] at henc
    have b5 := take_lt xs ho y3.pl y3.f 8
    have c5 : 0 ≤ y4.n ∧ y4.n < 18446744073709551616 := by rw [h4]; exact b5
    obtain ⟨f1, f2, f3⟩ := faultC_zero c
    have hfit : cm.Fit := ⟨by rw [hcm]; exact idOf_len (by rw [h1]; exact raw32_len _ _ _), fun o hoo => (rdIs_good xs ho _ _ n o (by rw [hcm] at hoo; exact hoo)).1, f1, f2, by rw [hcm]; exact c5.1, by rw [hcm]; show y4.n ≤ _; omega, f3⟩
    have hg := gCom_enc cm hfit
    rw [henc] at hg
    exact ⟨(gok_com hk).2 (by rw [hg]; exact ⟨c, henc⟩), hg.symm⟩
  have bwd : gOk xs = true → y5.f = 0 ∧ y5.pl = xs.length ∧ faultC cm = 0 := fun h => by
    obtain ⟨hf, he⟩ := (gok_com hk).1 h
    obtain ⟨z1, z2, z3, z4, z5, p, _, e1, e2, en, er, e3, e4, e5, et, ef, ep⟩ := com_back (gCom xs) (com_fit (gCom_good ho hl) hf)
    rw [he] at e1 e2 er e3 e4 e5 ep
    obtain rfl : y1 = z1 := h1.trans e1.symm
    obtain rfl : y2 = z2 := h2.trans e2.symm
    have hnn : n = (gCom xs).parents.length := by rw [hn] at en; omega
    rw [← hnn] at er
    rw [er] at h3 hcm
    obtain rfl : y3 = z3 := h3.trans e3.symm
    obtain rfl : y4 = z4 := h4.trans e4.symm
    obtain rfl : y5 = z5 := h5.trans e5.symm
    exact ⟨ef, ep, by rw [hcm, ← et]; exact hf⟩
  exact ⟨⟨fun h => (fwd h).1, bwd⟩, fun h => (fwd (bwd h)).2⟩
theorem tree_iff [TabC] {xs : List Int} (ho : Octs xs) (hl : xs.length ≤ 65536) (hk : xAt xs 0 = 2) (hne : xs ≠ []) (hgd : ∀ e, e ∈ gTree xs → e.Good) (y1 : Took) (n : Nat) (h1 : y1 = takeL xs 1 0 1 0 1024) (hn : y1.n = (n : Int)) :
    ((rdEs xs y1.pl y1.f n).2.2 = 0 ∧ (rdEs xs y1.pl y1.f n).2.1 = xs.length ∧ faultT (rdEs xs y1.pl y1.f n).1 = 0 ↔ gOk xs = true) ∧ (gOk xs = true → (rdEs xs y1.pl y1.f n).1 = gTree xs) := by
  have h0 := take_first ho hne
  have fwd : (rdEs xs y1.pl y1.f n).2.2 = 0 ∧ (rdEs xs y1.pl y1.f n).2.1 = xs.length ∧ faultT (rdEs xs y1.pl y1.f n).1 = 0 → gOk xs = true ∧ (rdEs xs y1.pl y1.f n).1 = gTree xs := fun ⟨a, b, c⟩ => by
    have henc := tree_one_form ho _ y1 n rfl (by rw [h0]; exact hk) (by rw [h0]; exact h1) hn a b
    obtain ⟨f1, f2⟩ := faultT_zero c
    have hg := gTree_enc _ f1 (ents_fit (rdEs_good xs ho hl _ _ n) c)
    rw [henc] at hg
    exact ⟨(gok_tree hk).2 (by rw [hg]; exact ⟨c, henc⟩), hg.symm⟩
  have bwd : gOk xs = true → (rdEs xs y1.pl y1.f n).2.2 = 0 ∧ (rdEs xs y1.pl y1.f n).2.1 = xs.length ∧ faultT (rdEs xs y1.pl y1.f n).1 = 0 := fun h => by
    obtain ⟨hf, he⟩ := (gok_tree hk).1 h
    obtain ⟨_, e1, e2⟩ := tree_back (gTree xs) (faultT_zero hf).1 (ents_fit hgd hf)
    rw [he] at e1 e2
    have hy : y1 = ⟨(gTree xs).length, [], 1 + (varB (gTree xs).length).length, 0⟩ := h1.trans e1
    have hnn : n = (gTree xs).length := by rw [hy] at hn; have : ((gTree xs).length : Int) = (n : Int) := hn; omega
    have e3 : rdEs xs y1.pl y1.f n = (gTree xs, xs.length, 0) := by rw [hy, hnn]; exact e2
    rw [e3]
    exact ⟨rfl, rfl, hf⟩
  exact ⟨⟨fun h => (fwd h).1, bwd⟩, fun h => (fwd (bwd h)).2⟩
theorem gEnts_good {xs : List Int} (ho : Octs xs) (hl : xs.length ≤ 65536) : ∀ n p, ∀ e, e ∈ (gEnts xs n p).1 → e.Good
  | 0, p, o, h => by cases h
  | n + 1, p, o, h => by
    unfold gEnts at h
    split at h
    · rcases List.mem_cons.1 h with rfl | h
      · have hx := xAt_oct ho p
        exact ⟨by show -9223372036854775808 ≤ xAt xs p; omega, by show xAt xs p ≤ 9223372036854775807; omega, txt_good ho hl _, ⟨takeX_len _ _ _, takeX_octs ho _ _⟩⟩
      · exact gEnts_good ho hl n _ o h
    · cases h

theorem readTagA [TabC] (v : Value) (xs : List Int) (w : World) (hv : BytesAt w v xs) (ho : Octs xs) (hl : xs.length ≤ 65536) (hT : Tabs w) (hk : xAt xs 0 = 4) (hne : xs ≠ []) : Calls Tryz.prog 34 #[v] w (ReadA w xs) := by
  have h0 := take_first ho hne
  have k1 : TkOk xs 1 0 := ⟨Nat.zero_le _, List.length_pos_iff.2 hne⟩
  have k2 := k1.step ho 3 32 0 (fun h => absurd h (by decide)) (by decide)
  have k3 := k2.step ho 0 1 0 (fun _ => by decide) (by decide)
  have k4 := k3.step ho 2 0 255 (fun h => absurd h (by decide)) (by decide)
  have k5 := k4.step ho 2 0 255 (fun h => absurd h (by decide)) (by decide)
  have k6 := k5.step ho 0 8 0 (fun _ => by decide) (by decide)
  have k7 := k6.step ho 2 0 4096 (fun h => absurd h (by decide)) (by decide)
  obtain ⟨hi, ht⟩ := tag_iff ho hl hk hne _ _ _ _ _ _ rfl rfl rfl rfl rfl rfl _ rfl
  have hp := parErr_kind (xs := xs) (by omega) (by omega)
  refine (readTag v xs w hv ho hl hT ⟨4, [], 1, 0⟩ (by show _ = _; rw [h0, hk]) rfl _ _ _ _ _ _ rfl rfl rfl rfl rfl rfl _ rfl k7.1 k7.2).mono ?_
  rintro e w' ⟨hkp, hA, hB⟩
  by_cases hg : gOk xs = true
  · rw [if_pos hg] at hp
    have hr := hA (hi.2 hg)
    rw [ht hg] at hr
    refine ⟨hkp, fun h => absurd hp h, fun _ => ⟨nilV, nilV, nilV, ?_, ?_, fun b hb => ?_⟩⟩
    · rw [guessO_tag hk]; exact hr
    · rw [guessO_tag hk]
      exact ⟨(by decide : (-9223372036854775808 : Int) ≤ 4), (by decide : (4 : Int) ≤ 9223372036854775807), BytesAt.nil w', goodT_nil, ents_nil w', (fun e he => by cases he), ids_nil w', zeroC_good, gTag_good ho hl⟩
    · rw [guessO_tag hk] at hb
      rcases hb with h | h | h
      · cases h
      · cases h
      · cases h
  · rw [if_neg hg] at hp
    exact readA_bad hkp hp (by decide) (hB (fun h => hg (hi.1 h)))
theorem readComA [TabC] (v : Value) (xs : List Int) (w : World) (hv : BytesAt w v xs) (ho : Octs xs) (hl : xs.length ≤ 65536) (hT : Tabs w) (hk : xAt xs 0 = 3) (hne : xs ≠ []) : Calls Tryz.prog 34 #[v] w (ReadA w xs) := by
  have h0 := take_first ho hne
  have k1 : TkOk xs 1 0 := ⟨Nat.zero_le _, List.length_pos_iff.2 hne⟩
  have k2 := k1.step ho 3 32 0 (fun h => absurd h (by decide)) (by decide)
  have k3 := k2.step ho 1 0 8 (fun h => absurd h (by decide)) (by decide)
  have hnb := take_var_le xs ho (takeL xs 1 0 3 32 0).pl (takeL xs 1 0 3 32 0).f 8 (by decide)
  obtain ⟨n, hn⟩ : ∃ n : Nat, (takeL xs (takeL xs 1 0 3 32 0).pl (takeL xs 1 0 3 32 0).f 1 0 8).n = (n : Int) := ⟨(takeL xs (takeL xs 1 0 3 32 0).pl (takeL xs 1 0 3 32 0).f 1 0 8).n.toNat, by omega⟩
  have k4 := k3.ids ho n
  have k5 := k4.step ho 2 0 255 (fun h => absurd h (by decide)) (by decide)
  have k6 := k5.step ho 0 8 0 (fun _ => by decide) (by decide)
  have k7 := k6.step ho 2 0 4096 (fun h => absurd h (by decide)) (by decide)
  obtain ⟨hi, ht⟩ := com_iff ho hl hk hne _ _ _ _ _ n rfl rfl hn rfl rfl rfl _ rfl
  have hp := parErr_kind (xs := xs) (by omega) (by omega)
  refine (readCom v xs w hv ho hl hT ⟨3, [], 1, 0⟩ (by show _ = _; rw [h0, hk]) rfl _ _ _ _ _ n _ _ _ rfl rfl hn (show _ = _ from rfl) rfl rfl rfl _ rfl k7.1 k7.2).mono ?_
  rintro e w' ⟨hkp, hA, hB⟩
  by_cases hg : gOk xs = true
  · rw [if_pos hg] at hp
    obtain ⟨b, he, hrow, hb⟩ := hA (hi.2 hg)
    have hcm := ht hg
    have hps : (rdIs xs (takeL xs (takeL xs 1 0 3 32 0).pl (takeL xs 1 0 3 32 0).f 1 0 8).pl (takeL xs (takeL xs 1 0 3 32 0).pl (takeL xs 1 0 3 32 0).f 1 0 8).f n).1 = (gCom xs).parents := by rw [← hcm]
    have hnl : n = (gCom xs).parents.length := by rw [← hps, rdIs_len]
    rw [hcm, hnl] at he
    rw [hps] at hrow
    have hids : IdsAt w' (.slice (some ⟨b, 0, none⟩) (gCom xs).parents.length (gCom xs).parents.length) (gCom xs).parents := IdsAt.of_rows hrow (gCom_good ho hl).parents (by rw [← hnl]; omega)
    refine ⟨hkp, fun h => absurd hp h, fun _ => ⟨nilV, nilV, .slice (some ⟨b, 0, none⟩) (gCom xs).parents.length (gCom xs).parents.length, ?_, ?_, fun b' hb' => ?_⟩⟩
    · rw [guessO_com hk]; exact he
    · rw [guessO_com hk]
      exact ⟨(by decide : (-9223372036854775808 : Int) ≤ 3), (by decide : (3 : Int) ≤ 9223372036854775807), BytesAt.nil w', goodT_nil, ents_nil w', (fun e he => by cases he), hids, gCom_good ho hl, zeroG_good⟩
    · rw [guessO_com hk] at hb'
      rcases hb' with h | h | h
      · cases h
      · cases h
      · have e : b = b' := by simpa [blkOf] using h
        omega
  · rw [if_neg hg] at hp
    exact readA_bad hkp hp (by decide) (hB (fun h => hg (hi.1 h)))
theorem readTreeA [TabC] (v : Value) (xs : List Int) (w : World) (hv : BytesAt w v xs) (ho : Octs xs) (hl : xs.length ≤ 65536) (hT : Tabs w) (hk : xAt xs 0 = 2) (hne : xs ≠ []) : Calls Tryz.prog 34 #[v] w (ReadA w xs) := by
  have h0 := take_first ho hne
  have k1 : TkOk xs 1 0 := ⟨Nat.zero_le _, List.length_pos_iff.2 hne⟩
  have k2 := k1.step ho 1 0 1024 (fun h => absurd h (by decide)) (by decide)
  have hnb := take_var_le xs ho 1 0 1024 (by decide)
  obtain ⟨n, hn⟩ : ∃ n : Nat, (takeL xs 1 0 1 0 1024).n = (n : Int) := ⟨(takeL xs 1 0 1 0 1024).n.toNat, by omega⟩
  have k4 := k2.ents ho n
  have hgd : ∀ e, e ∈ gTree xs → e.Good := gEnts_good ho hl _ _
  obtain ⟨hi, ht⟩ := tree_iff ho hl hk hne hgd _ n rfl hn
  have hp := parErr_kind (xs := xs) (by omega) (by omega)
  refine (readTree v xs w hv ho hl hT ⟨2, [], 1, 0⟩ (by show _ = _; rw [h0, hk]) rfl _ rfl n (by show _ = _; rw [hn]; rfl) _ _ _ (show _ = _ from rfl) k4.1 k4.2).mono ?_
  rintro e w' ⟨hkp, hA, hB⟩
  by_cases hg : gOk xs = true
  · rw [if_pos hg] at hp
    obtain ⟨b, he, hrow, hb⟩ := hA (hi.2 hg)
    have hes := ht hg
    have hnl : n = (gTree xs).length := by rw [← hes, rdEs_len]
    rw [hnl] at he
    rw [hes] at hrow
    have hents : EntsAt w' (.slice (some ⟨b, 0, none⟩) (gTree xs).length (gTree xs).length) (gTree xs) := EntsAt.of_rows hrow hgd (by rw [← hnl]; omega)
    refine ⟨hkp, fun h => absurd hp h, fun _ => ⟨nilV, .slice (some ⟨b, 0, none⟩) (gTree xs).length (gTree xs).length, nilV, ?_, ?_, fun b' hb' => ?_⟩⟩
    · rw [guessO_tree hk]; exact he
    · rw [guessO_tree hk]
      exact ⟨(by decide : (-9223372036854775808 : Int) ≤ 2), (by decide : (2 : Int) ≤ 9223372036854775807), BytesAt.nil w', goodT_nil, hents, hgd, ids_nil w', zeroC_good, zeroG_good⟩
    · rw [guessO_tree hk] at hb'
      rcases hb' with h | h | h
      · cases h
      · have e : b = b' := by simpa [blkOf] using h
        omega
      · cases h
  · rw [if_neg hg] at hp
    exact readA_bad hkp hp (by decide) (hB (fun h => hg (hi.1 h)))
end Go.Proofs.YtddhhjgegkkjbaaGreatDoor

namespace Go.Proofs.YtddhhjgegkkjbaaGreatDoor
open Go.RowKit

theorem Kept.setRowN {S : List Nat} {a w : World} (h : Kept S a w) {g : Nat} (hg : a.heap.size ≤ g) (cs : Array Value) : Kept S a (w.setRow g cs) :=
  h.trans (S' := [g]) ⟨rfl, rfl, rfl, by simp [World.setRow], fun k _ hn => setRow_other w g k cs (fun e => hn (by simp [e]))⟩ (fun x hx => by simp at hx; exact Or.inr (by omega))
theorem ComL.row_len {c : ComL} (hl : c.tree.length = 32) (pv : Value) : (c.row pv).length = 36 := by simp [ComL.row, hl]

theorem wantedS {P : Program} {ops : Array Oper} {rest : List Oper} {o : Oper} {a : Act} {w : World} {Q : Exit → Act → World → Prop} (hw : Region.wanted o (yielded ops a.tmps) = true)
    (h : ∀ K : Act → World → Prop, (∀ a w, wpList P ops Q rest a w → K a w) → o.wp P a w K Q) : wpList P ops Q (o :: rest) a w :=
  wpList_step fun K hK => by rw [if_pos hw]; exact h K hK
theorem alloc_letter {K : Act → World → Prop} {a : Act} {w : World} {Z : Array Value} {t : TypeId} {n : Nat} (hz : Z.size = n)
    (h : ∀ W1 Z1, Hid (Z1.size = n) → Hid (W1.heap[w.heap.size]? = some (.cells Z1 t (0, 0))) → W1.heap.size = w.heap.size + 1 → Hid (Kept [] w W1) → K a W1) : K a (w.alloc (.cells Z t)) :=
  h _ Z hz (heap_alloc_new w _) (World.size_alloc _ _) ((Kept.refl [] w).alloc _)
theorem alloc_letterd {K : Act → World → Prop} {a : Act} {w : World} {Z : Array Value} {t : TypeId} {n : Nat} (hz : Z.size = n)
    (h : ∀ W1 Z1, Hid (Z1.size = n) → Hid (W1.heap[w.heap.size]? = some (.cells Z1 t (0, 0))) → W1.heap.size = w.heap.size + 1 → Hid (Kept [] w W1) → K a W1) : K a (w.alloc (.cells Z t)).drew :=
  h _ Z hz (heap_alloc_new w _) (World.size_alloc _ _) ((Kept.refl [] w).alloc _).drew

end Go.Proofs.YtddhhjgegkkjbaaGreatDoor

namespace Go.Proofs.YtddhhjgegkkjbaaGreatDoor
open Go.RowKit

theorem octs_app {xs ys : List Int} (h1 : Octs xs) (h2 : Octs ys) : Octs (xs ++ ys) := fun u hu => (List.mem_append.1 hu).elim (h1 u) (h2 u)
end Go.Proofs.YtddhhjgegkkjbaaGreatDoor

namespace Go.Proofs.YtddhhjgegkkjbaaGreatDoor
open Go.RowKit

set_option maxRecDepth 100000 in
set_option maxHeartbeats 2000000 in
theorem readKind (v : Value) (xs : List Int) (w : World) (hv : BytesAt w v xs) (ho : Octs xs) (hl : xs.length ≤ 65536) (y0 : Took) (h0 : Hid (y0 = takeL xs 0 0 0 1 0)) (k : Int) (hk : Hid (y0.n = k)) (n1 : ¬ k = 1) (n2 : ¬ k = 2) (n3 : ¬ k = 3) (n4 : ¬ k = 4) :
    Calls Tryz.prog 34 #[v] w fun e w' => Kept [] w w' ∧ e = .returned (.tuple #[.nilIface, .int .i64 30]) := by
  have hread := Read_any v xs w hv (by omega) ho
  have HU8 : Hid (∀ W r g, Rdr W r g xs 0 0 → Calls Tryz.prog 48 #[.pointer (some ⟨r, 0, none⟩)] W fun e w' => e = .returned (.int .u8 k) ∧ Rdr w' r g xs y0.pl y0.f ∧ Kept [r] W w') := fun W r g q => by
    have h := U8_any q y0 h0
    rw [hk.out] at h
    exact h
  have hlx : decide (65536 < (xs.length : Int)) = false := decide_eq_false (by omega)
  obtain ⟨ao, cap, rfl, _⟩ := hv
  go_enter Tryz.func34, Tryz.ntmps34
  go_wp2_with (first
    | (go_at_call 47; refine hread.mono ?_; rintro e w1 ⟨r, g, rfl, hr1, hk1, hrs, hgs⟩
       have HR1 : Hid (Rdr w1 r g xs 0 0) := hr1
       have HK1 : Hid (Kept [] w w1) := hk1
       clear hr1 hk1)
    | (go_at_call 48; refine (HU8.out _ r g HR1.out).mono ?_; rintro e w2 ⟨rfl, hr2, hk2⟩
       have HK2 : Hid (Kept [] w w2) := kept_new HK1.out hk2 hrs
       clear hr2 hk2))
  refine bodyPost_ret (v := .tuple #[.nilIface, .int .i64 30]) (by simp [results, Tryz.results34, go_sem]) rfl ⟨HK2.out, rfl⟩

end Go.Proofs.YtddhhjgegkkjbaaGreatDoor

namespace Go.Proofs.YtddhhjgegkkjbaaGreatDoor
open Go.RowKit

set_option maxRecDepth 100000 in
set_option maxHeartbeats 2000000 in
theorem readLongA [TabC] (v : Value) (xs : List Int) (w : World) (hf : ∃ ao c, v = .slice ao xs.length c) (hl : 65536 < xs.length) : Calls Tryz.prog 34 #[v] w (ReadA w xs) := by
  have hp : parErr xs = 31 := by unfold parErr; rw [if_pos hl]
  have HF : Hid (∀ e W, e = .returned (.tuple #[.nilIface, .int .i64 31]) → Kept [] w W → ReadA w xs e W) := fun e W he hk => readA_bad hk hp (by decide) he
  obtain ⟨ao, cap, rfl⟩ := hf
  have hlx : decide (65536 < (xs.length : Int)) = true := decide_eq_true (by omega)
  clear hp
  go_enter Tryz.func34, Tryz.ntmps34
  go_wp2
  exact bodyPost_ret (v := .tuple #[.nilIface, .int .i64 31]) (by simp [results, Tryz.results34, go_sem]) rfl (HF.out _ _ rfl (Kept.refl _ _))

set_option maxRecDepth 100000 in
set_option maxHeartbeats 2000000 in
theorem readBlobA [TabC] (v : Value) (xs : List Int) (w : World) (hv : BytesAt w v xs) (ho : Octs xs) (hl : xs.length ≤ 65536) (hk : xAt xs 0 = 1) (hne : xs ≠ []) : Calls Tryz.prog 34 #[v] w (ReadA w xs) := by
  have hread := Read_any v xs w hv (by omega) ho
  have hpos := List.length_pos_iff.2 hne
  have h0 := take_first ho hne
  rw [hk] at h0
  have HU8 : Hid (∀ W r g, Rdr W r g xs 0 0 → Calls Tryz.prog 48 #[.pointer (some ⟨r, 0, none⟩)] W fun e w' => e = .returned (.int .u8 1) ∧ Rdr w' r g xs 1 0 ∧ Kept [r] W w') := fun W r g q => U8_any q ⟨1, [], 1, 0⟩ h0.symm
  have hdl : (xs.drop 1).length = xs.length - 1 := List.length_drop
  have hb := back_raw xs 1 (xs.drop 1) [] (by rw [List.append_nil])
  have HRAW : Hid (∀ W r g, Rdr W r g xs 1 0 → Calls Tryz.prog 49 #[.pointer (some ⟨r, 0, none⟩), .int .i64 ((xs.length : Int) - 1)] W fun e w' => ∃ q, e = .returned (.slice (some ⟨q, 0, none⟩) (xs.length - 1) (xs.length - 1)) ∧ BytesAt w' (.slice (some ⟨q, 0, none⟩) (xs.length - 1) (xs.length - 1)) (xs.drop 1) ∧ W.heap.size ≤ q ∧ Rdr w' r g xs xs.length 0 ∧ Kept [r] W w') := fun W r g q => by
    have h := Raw_any q ((xs.length : Int) - 1) (by omega) ⟨0, xs.drop 1, 1 + (xs.drop 1).length, 0⟩ (by show _ = _; rw [← hb, hdl]; congr 1; omega)
    refine h.mono ?_
    rintro e w' ⟨q1, he, hrow, hq, hR, hk⟩
    dsimp only at he hrow hR
    have hbb := row_bytes' hrow
    rw [hdl] at he hbb hR
    rw [show 1 + (xs.length - 1) = xs.length by omega] at hR
    exact ⟨q1, he, hbb, hq, hR, hk⟩
  have HEND : Hid (∀ W r g, Rdr W r g xs xs.length 0 → Calls Tryz.prog 54 #[.pointer (some ⟨r, 0, none⟩)] W fun e w' => e = .returned (.int .i64 0) ∧ ∃ n, w' = W.drewN n) := fun W r g q => by
    have h := End_any q (by decide)
    rw [if_neg (by decide), if_neg (by omega)] at h
    exact h
  have HFB : Hid (∀ W v, BytesAt W v (xs.drop 1) → Calls Tryz.prog 124 #[v] W fun e w' => e = .returned (.int .i64 0) ∧ Kept [] W w') := fun W v hvb => by
    have h := blobFault_any v (xs.drop 1) W hvb (by omega)
    rw [show faultB (xs.drop 1) = 0 from if_neg (by omega)] at h
    exact h
  have hm1 := meth_blob_fault
  have hp := parErr_kind (xs := xs) (by omega) (by omega)
  rw [if_pos (gok_blob hk hne)] at hp
  have HF : Hid (∀ e W q, e = .returned (.tuple #[.iface 98 (.slice (some ⟨q, 0, none⟩) (xs.length - 1) (xs.length - 1)), .int .i64 0]) → Kept [] w W → BytesAt W (.slice (some ⟨q, 0, none⟩) (xs.length - 1) (xs.length - 1)) (xs.drop 1) → w.heap.size ≤ q → ReadA w xs e W) := fun e W q he hkp hbt hq => by
    refine ⟨hkp, fun h => absurd hp h, fun _ => ⟨.slice (some ⟨q, 0, none⟩) (xs.length - 1) (xs.length - 1), nilV, nilV, ?_, ?_, fun b hb => ?_⟩⟩
    · rw [guessO_blob hk]; exact he
    · rw [guessO_blob hk]
      exact ⟨(by decide : (-9223372036854775808 : Int) ≤ 1), (by decide : (1 : Int) ≤ 9223372036854775807), hbt, ⟨octs_drop ho 1, by show (xs.drop 1).length ≤ _; omega⟩, ents_nil W, (fun e he => by cases he), ids_nil W, zeroC_good, zeroG_good⟩
    · rw [guessO_blob hk] at hb
      rcases hb with h | h | h
      · have e : q = b := by simpa [blkOf] using h
        omega
      · cases h
      · cases h
  have hlx : decide (65536 < (xs.length : Int)) = false := decide_eq_false (by omega)
  obtain ⟨ao, cap, rfl, _⟩ := hv
  clear hp hb h0 ho hdl
  go_enter Tryz.func34, Tryz.ntmps34
  go_wp2_with (first
    | (go_at_call 47; refine hread.mono ?_; rintro e w1 ⟨r, g, rfl, hr1, hk1, hrs, hgs⟩
       have HR1 : Hid (Rdr w1 r g xs 0 0) := hr1
       have HK1 : Hid (Kept [] w w1) := hk1
       clear hr1 hk1)
    | (go_at_call 48; refine (HU8.out _ r g HR1.out).mono ?_; rintro e w2 ⟨rfl, hr2, hk2⟩
       have HR2 : Hid (Rdr w2 r g xs 1 0) := hr2
       have HK2 : Hid (Kept [] w w2) := kept_new HK1.out hk2 hrs
       have hlf := Left_any hr2
       clear hr2 hk2)
    | (go_at_call 50; refine hlf.mono ?_; rintro e w3 ⟨rfl, n3, hw3⟩
       have kd : Kept [] w2 w3 := by rw [hw3]; exact (Kept.refl [] w2).drewN n3
       have HR3 : Hid (Rdr w3 r g xs 1 0) := HR2.out.kept kd (by simp) (by simp)
       have HK3 : Hid (Kept [] w w3) := HK2.out.then kd
       clear hlf kd hw3)
    | (go_at_call 49; refine (HRAW.out _ r g HR3.out).mono ?_; rintro e w4 ⟨q, rfl, hb4, hq4, hr4, hk4⟩
       have HR4 : Hid (Rdr w4 r g xs xs.length 0) := hr4
       have HB4 : Hid (BytesAt w4 (.slice (some ⟨q, 0, none⟩) (xs.length - 1) (xs.length - 1)) (xs.drop 1)) := hb4
       have HQ4 : Hid (w.heap.size ≤ q) := Nat.le_trans HK3.out.size hq4
       have HK4 : Hid (Kept [] w w4) := kept_new HK3.out hk4 hrs
       clear hr4 hk4 hb4 hq4)
    | (go_at_call 54; refine (HEND.out _ r g HR4.out).mono ?_; rintro e w5 ⟨rfl, n5, hw5⟩
       have kd5 : Kept [] w4 w5 := by rw [hw5]; exact (Kept.refl [] w4).drewN n5
       have HK5 : Hid (Kept [] w w5) := HK4.out.then kd5
       have HB5 : Hid (BytesAt w5 (.slice (some ⟨q, 0, none⟩) (xs.length - 1) (xs.length - 1)) (xs.drop 1)) := HB4.out.keep kd5 (fun _ _ _ => by simp)
       clear kd5 hw5)
    | (go_at_call 124; refine (HFB.out _ _ HB5.out).mono ?_; rintro e w6 ⟨rfl, hk6⟩
       have HK6 : Hid (Kept [] w w6) := HK5.out.then hk6
       have HB6 : Hid (BytesAt w6 (.slice (some ⟨q, 0, none⟩) (xs.length - 1) (xs.length - 1)) (xs.drop 1)) := HB5.out.keep hk6 (fun _ _ _ => by simp)
       clear hk6))
  refine bodyPost_ret (v := .tuple #[.iface 98 (.slice (some ⟨q, 0, none⟩) (xs.length - 1) (xs.length - 1)), .int .i64 0]) (by simp [results, Tryz.results34, go_sem]) rfl (HF.out _ _ q rfl HK6.out HB6.out HQ4.out)

theorem read_any [TabC] (v : Value) (xs : List Int) (w : World) (hv : BytesAt w v xs) (ho : Octs xs) (hT : Tabs w) : Calls Tryz.prog 34 #[v] w (ReadA w xs) := by
  by_cases hl : 65536 < xs.length
  · obtain ⟨ao, cap, hvf, _⟩ := hv
    exact readLongA v xs w ⟨ao, cap, hvf⟩ hl
  · by_cases hne : xs = []
    · have h0 : xAt xs 0 = 0 := by rw [hne]; rfl
      have hp : parErr xs = 30 := by unfold parErr; rw [if_neg hl, if_pos (by omega)]
      refine (readKind v xs w hv ho (by omega) _ rfl 0 (by show (takeL xs 0 0 0 1 0).n = 0; rw [hne]; rfl) (by decide) (by decide) (by decide) (by decide)).mono ?_
      rintro e w' ⟨hk, he⟩
      exact readA_bad hk hp (by decide) he
    · by_cases hk : 1 ≤ xAt xs 0 ∧ xAt xs 0 ≤ 4
      · by_cases k1 : xAt xs 0 = 1
        · exact readBlobA v xs w hv ho (by omega) k1 hne
        · by_cases k2 : xAt xs 0 = 2
          · exact readTreeA v xs w hv ho (by omega) hT k2 hne
          · by_cases k3 : xAt xs 0 = 3
            · exact readComA v xs w hv ho (by omega) hT k3 hne
            · exact readTagA v xs w hv ho (by omega) hT (by omega) hne
      · have hp : parErr xs = 30 := by unfold parErr; rw [if_neg hl, if_pos hk]
        refine (readKind v xs w hv ho (by omega) _ rfl (xAt xs 0) (by show (takeL xs 0 0 0 1 0).n = xAt xs 0; rw [take_first ho hne]) (by omega) (by omega) (by omega) (by omega)).mono ?_
        rintro e w' ⟨hk, he⟩
        exact readA_bad hk hp (by decide) he
end Go.Proofs.YtddhhjgegkkjbaaGreatDoor
