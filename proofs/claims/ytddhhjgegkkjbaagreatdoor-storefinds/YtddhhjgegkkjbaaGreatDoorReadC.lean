/-
  Objects as values; WALK: object.contentOf.
  WALKS: (object.blob).fault, write; object.Encode of each kind.
  What is read is good; object.read's plain part.
  WALK: object.read, of a commit.
-/
import Derived.Test.YtddhhjgegkkjbaaGreatDoorCom4
namespace Go.Proofs.YtddhhjgegkkjbaaGreatDoor
open Go.RowKit

structure ObjL where
  kind : Int
  bv : Value
  blob : List Int
  ev : Value
  es : List EntL
  com : ComL
  pv : Value
  tag : TagL
def ObjL.row (o : ObjL) : List Value := [.int .i64 o.kind, o.bv, o.ev] ++ (o.com.row o.pv ++ o.tag.row)
structure ObjL.Good (w : World) (o : ObjL) : Prop where
  lo : -9223372036854775808 ≤ o.kind
  hi : o.kind ≤ 9223372036854775807
  bv : BytesAt w o.bv o.blob
  blob : GoodText o.blob
  ev : EntsAt w o.ev o.es
  es : ∀ e, e ∈ o.es → e.Good
  pv : IdsAt w o.pv o.com.parents
  com : o.com.Good
  tag : o.tag.Good
theorem com_len' (c : ComL) (pv : Value) (hl : c.tree.length = 32) : (c.row pv).length = 36 := by simp [ComL.row, hl]
/-- What an object of its kind holds, as an interface's value. -/
def conV (o : ObjL) : Value := if o.kind = 1 then .iface 98 o.bv else if o.kind = 2 then .iface 100 o.ev else if o.kind = 3 then .iface 102 (.agg (o.com.row o.pv).toArray) else if o.kind = 4 then .iface 104 (.agg o.tag.row.toArray) else .nilIface

end Go.Proofs.YtddhhjgegkkjbaaGreatDoor

namespace Go.Proofs.YtddhhjgegkkjbaaGreatDoor
open Go.RowKit

def faultB (xs : List Int) : Int := if 65536 < 1 + xs.length then 31 else 0
def encB (xs : List Int) : List Int := fixedB 1 1 ++ xs

theorem blobFault_any (v : Value) (xs : List Int) (w : World) (hv : BytesAt w v xs) (hm : xs.length ≤ 140737488351232) :
    Calls Tryz.prog 124 #[v] w fun e w' => e = .returned (.int .i64 (faultB xs)) ∧ Kept [] w w' := by
  obtain ⟨ao, cap, rfl, _⟩ := hv
  by_cases hl : 65536 < 1 + xs.length
  · have HF : Hid (faultB xs = 31) := if_pos hl
    go_enter Tryz.func124, Tryz.ntmps124
    go_wp2
    go_ret
    exact ⟨by rw [HF.out]; rfl, Kept.refl _ _⟩
  · have HF : Hid (faultB xs = 0) := if_neg hl
    go_enter Tryz.func124, Tryz.ntmps124
    go_wp2
    go_ret
    exact ⟨by rw [HF.out]; rfl, Kept.refl _ _⟩

theorem kept_new {w W W' : World} {b : Nat} (h : Kept [] w W) (k : Kept [b] W W') (hb : w.heap.size ≤ b) : Kept [] w W' := h.trans k fun x hx => Or.inr (by rw [List.mem_singleton.1 hx]; exact hb)
theorem meth_blob_fault (n : Nat) (v : Value) (W : World) : (method (n + 1) 98 v "satchel/object.fault").run Tryz.prog W = .ok (124, v) W := by kernel_rfl
theorem meth_tree_fault (n : Nat) (v : Value) (W : World) : (method (n + 1) 100 v "satchel/object.fault").run Tryz.prog W = .ok (127, v) W := by kernel_rfl
theorem meth_commit_fault (n : Nat) (v : Value) (W : World) : (method (n + 1) 102 v "satchel/object.fault").run Tryz.prog W = .ok (143, v) W := by kernel_rfl
theorem meth_tag_fault (n : Nat) (v : Value) (W : World) : (method (n + 1) 104 v "satchel/object.fault").run Tryz.prog W = .ok (149, v) W := by kernel_rfl
end Go.Proofs.YtddhhjgegkkjbaaGreatDoor

namespace Go.Proofs.YtddhhjgegkkjbaaGreatDoor
open Go.RowKit

theorem take_octs (xs : List Int) (ho : Octs xs) (pl f : Nat) (kind size most : Int) : Octs (takeL xs pl f kind size most).text := by
  unfold takeL
  split
  · intro u hu; simp at hu
  · split
    · intro u hu; simp at hu
    · intro u hu
      exact ho u (List.mem_of_mem_drop (List.mem_of_mem_take (List.mem_of_mem_drop hu)))
theorem idOf_good {t : List Int} (ho : Octs t) (hl : t.length ≤ 32) : GoodID (idOf t) := ⟨idOf_len hl, fun u hu => by
  unfold idOf at hu
  rcases List.mem_append.1 hu with h | h
  · exact ho u h
  · have := List.mem_of_mem_drop h
    unfold zero32 at this
    rw [(List.mem_replicate.1 this).2]
    exact ⟨by decide, by decide⟩⟩
theorem take_text_good (xs : List Int) (ho : Octs xs) (hs : xs.length ≤ 65536) (pl f : Nat) (kind size most : Int) : GoodText (takeL xs pl f kind size most).text := ⟨take_octs xs ho pl f kind size most, Nat.le_trans (take_len xs pl f kind size most) (by omega)⟩
theorem rdEs_good (xs : List Int) (ho : Octs xs) (hs : xs.length ≤ 65536) (pl f : Nat) : ∀ k e, e ∈ (rdEs xs pl f k).1 → e.Good
  | 0, e, h => by simp [rdEs] at h
  | k + 1, e, h => by
    unfold rdEs at h
    rcases List.mem_append.1 h with h | h
    · exact rdEs_good xs ho hs pl f k e h
    · rw [List.mem_singleton.1 h]
      have hb := take_lt xs ho (rdEs xs pl f k).2.1 (rdEs xs pl f k).2.2 1
      have hb1 : (takeL xs (rdEs xs pl f k).2.1 (rdEs xs pl f k).2.2 0 ((1 : Nat) : Int) 0).n < 256 := hb.2
      have hb0 := hb.1
      exact ⟨by show -9223372036854775808 ≤ (takeL xs (rdEs xs pl f k).2.1 (rdEs xs pl f k).2.2 0 ((1 : Nat) : Int) 0).n; omega, by show (takeL xs (rdEs xs pl f k).2.1 (rdEs xs pl f k).2.2 0 ((1 : Nat) : Int) 0).n ≤ 9223372036854775807; omega, take_text_good xs ho hs _ _ _ _ _, idOf_good (take_octs xs ho _ _ _ _ _) (raw32_len _ _ _)⟩
theorem EntsAt.of_rows {w : World} {b : Nat} {es : List EntL} (h : RowsIn w b 127 (es.map EntL.row)) (hg : ∀ e, e ∈ es → e.Good) (hl : es.length ≤ 1024) : EntsAt w (.slice (some ⟨b, 0, none⟩) es.length es.length) es := by
  refine ⟨_, es.length, by rw [List.length_map], by rw [List.length_map]; exact Nat.le_refl _, fun e => (by cases e), by rw [List.length_map]; omega, fun _ => ⟨b, 0, rfl, fun i cs hi => ?_⟩⟩
  rw [Nat.zero_add]
  exact h.range 34 (by decide) (fun r hr => by
    obtain ⟨e, he, rfl⟩ := List.mem_map.1 hr
    exact EntL.row_len (hg e he).id) i cs hi
theorem take_f (xs : List Int) (ho : Octs xs) (pl f : Nat) (hf : f ≤ 4) (kind size most : Int) (hs : kind = 0 → size ≤ 8) (hm : most ≤ 18446744073709551615) : (takeL xs pl f kind size most).f ≤ 4 := by
  unfold takeL
  split
  · exact hf
  · split
    · exact (lookL_fits (xs.drop pl) kind size most (octs_drop ho pl) hs hm).f
    · exact Nat.zero_le _
theorem rdIs_good (xs : List Int) (ho : Octs xs) (pl f : Nat) : ∀ k e, e ∈ (rdIs xs pl f k).1 → GoodID e
  | 0, e, h => by simp [rdIs] at h
  | k + 1, e, h => by
    unfold rdIs at h
    rcases List.mem_append.1 h with h | h
    · exact rdIs_good xs ho pl f k e h
    · rw [List.mem_singleton.1 h]
      exact idOf_good (take_octs xs ho _ _ _ _ _) (raw32_len _ _ _)
theorem IdsAt.of_rows {w : World} {b : Nat} {ids : List (List Int)} (h : RowsIn w b 36 (ids.map idRow)) (hg : ∀ e, e ∈ ids → GoodID e) (hl : ids.length ≤ 1024) : IdsAt w (.slice (some ⟨b, 0, none⟩) ids.length ids.length) ids := by
  refine ⟨_, ids.length, rfl, Nat.le_refl _, fun e => (by cases e), by omega, fun _ => ⟨b, 0, rfl, fun i xs hi => ?_⟩⟩
  rw [Nat.zero_add]
  exact h.range 32 (by decide) (fun r hr => by
    obtain ⟨e, he, rfl⟩ := List.mem_map.1 hr
    unfold idRow
    rw [List.length_map, (hg e he).1]) i _ (by rw [List.getElem?_map, hi]; rfl)
theorem errL_ne : ∀ f : Nat, f ≠ 0 → f ≤ 4 → errL f ≠ 0
  | 0, h, _ => absurd rfl h
  | 1, _, _ => by decide
  | 2, _, _ => by decide
  | 3, _, _ => by decide
  | 4, _, _ => by decide
  | _ + 5, _, h => by omega
end Go.Proofs.YtddhhjgegkkjbaaGreatDoor

namespace Go.Proofs.YtddhhjgegkkjbaaGreatDoor
open Go.RowKit

set_option maxRecDepth 100000 in
set_option maxHeartbeats 2000000 in
theorem readCom [TabC] (v : Value) (xs : List Int) (w : World) (hv : BytesAt w v xs) (ho : Octs xs) (hl : xs.length ≤ 65536) (hT : Tabs w) (y0 : Took) (h0 : Hid (y0 = takeL xs 0 0 0 1 0)) (hk : Hid (y0.n = 3)) (y1 y2 y3 y4 y5 : Took) (n : Nat) (ps : List (List Int)) (p q : Nat) (h1 : Hid (y1 = takeL xs y0.pl y0.f 3 32 0)) (h2 : Hid (y2 = takeL xs y1.pl y1.f 1 0 8)) (hn : Hid (y2.n = (n : Int))) (hs : Hid (rdIs xs y2.pl y2.f n = (ps, p, q))) (h3 : Hid (y3 = takeL xs p q 2 0 255)) (h4 : Hid (y4 = takeL xs y3.pl y3.f 0 8 0)) (h5 : Hid (y5 = takeL xs y4.pl y4.f 2 0 4096)) (cm : ComL) (hcm : Hid (cm = ⟨idOf y1.text, ps, y3.text, y4.n, y5.text⟩)) (hq4 : y5.f ≤ 4) (hple : y5.pl ≤ xs.length) :
    Calls Tryz.prog 34 #[v] w fun e w' => Kept [] w w' ∧ (y5.f = 0 ∧ y5.pl = xs.length ∧ faultC cm = 0 → ∃ b, e = .returned (.tuple #[.iface 102 (.agg (cm.row (.slice (some ⟨b, 0, none⟩) n n)).toArray), .int .i64 0]) ∧ RowsIn w' b 36 (ps.map idRow) ∧ w.heap.size ≤ b) ∧ (¬ (y5.f = 0 ∧ y5.pl = xs.length ∧ faultC cm = 0) → e = .returned (.tuple #[.nilIface, .int .i64 37])) := by
  have hread := Read_any v xs w hv (by omega) ho
  have HTB : Hid (∀ W, Kept [] w W → Tabs W) := fun W hW => hT.kept hW
  have HU8 : Hid (∀ W r g, Rdr W r g xs 0 0 → Calls Tryz.prog 48 #[.pointer (some ⟨r, 0, none⟩)] W fun e w' => e = .returned (.int .u8 3) ∧ Rdr w' r g xs y0.pl y0.f ∧ Kept [r] W w') := fun W r g q => by
    have h := U8_any q y0 h0
    rw [hk.out] at h
    exact h
  have hpn : ps.length = n := by have h := rdIs_len xs y2.pl y2.f n; rw [hs.out] at h; exact h
  have hn8 : n ≤ 8 := by
    have h := take_var_le xs ho y1.pl y1.f 8 (by decide)
    have h2' := hn.out
    rw [h2.out] at h2'
    omega
  have HGP : Hid (∀ o, o ∈ ps → GoodID o) := fun o hO => rdIs_good xs ho y2.pl y2.f n o (by rw [hs.out]; exact hO)
  have hcp : cm.parents = ps := by rw [hcm.out]
  have HGC : Hid (cm.Good) := by
    rw [hcm.out]
    have b4 := take_lt xs ho y3.pl y3.f 8
    have c4 : 0 ≤ y4.n ∧ y4.n < 18446744073709551616 := by rw [h4.out]; exact b4
    exact ⟨idOf_good (by rw [h1.out]; exact take_octs xs ho _ _ _ _ _) (by rw [h1.out]; exact raw32_len _ _ _), HGP.out, by rw [h3.out]; exact take_text_good xs ho hl _ _ _ _ _, c4.1, by show y4.n ≤ 18446744073709551615; omega, by rw [h5.out]; exact take_text_good xs ho hl _ _ _ _ _⟩
  have HRT : Hid (∀ W r g, Rdr W r g xs y0.pl y0.f → Calls Tryz.prog 52 #[.pointer (some ⟨r, 0, none⟩)] W fun e w' => ∃ b, e = .returned (.agg (cm.row (.slice (some ⟨b, 0, none⟩) n n)).toArray) ∧ RowsIn w' b 36 (ps.map idRow) ∧ W.heap.size ≤ b ∧ Rdr w' r g xs y5.pl y5.f ∧ Kept [r] W w') := fun W r g hW => by
    have h := readCommit_any hW y1 y2 y3 y4 y5 n ps p q h1 h2 hn hs h3 h4 h5
    rw [hcm.out]
    exact h
  have HFT : Hid (∀ W b, RowsIn W b 36 (ps.map idRow) → Kept [] w W → Calls Tryz.prog 143 #[.agg (cm.row (.slice (some ⟨b, 0, none⟩) n n)).toArray] W fun e w' => e = .returned (.int .i64 (faultC cm)) ∧ Kept [] W w') := fun W b hb hW =>
    comFault_any cm (.slice (some ⟨b, 0, none⟩) n n) W (HTB.out W hW) (by rw [hcp]; have h := IdsAt.of_rows hb HGP.out (by omega); rw [hpn] at h; exact h) HGC.out
  have HEND : Hid (∀ W r g, Rdr W r g xs y5.pl y5.f → Calls Tryz.prog 54 #[.pointer (some ⟨r, 0, none⟩)] W fun e w' => e = .returned (.int .i64 (if y5.f ≠ 0 then errL y5.f else if y5.pl < xs.length then 13 else 0)) ∧ ∃ n, w' = W.drewN n) := fun W r g q => End_any q hq4
  have hm1 := meth_commit_fault
  obtain ⟨ev, hev⟩ : ∃ ev : Int, ev = if y5.f ≠ 0 then errL y5.f else if y5.pl < xs.length then 13 else 0 := ⟨_, rfl⟩
  rw [← hev] at HEND
  have HEV : Hid (ev = 0 ↔ y5.f = 0 ∧ y5.pl = xs.length) := by
    have : ev = 0 ↔ y5.f = 0 ∧ y5.pl = xs.length := by
      rw [hev]
      by_cases hq0 : y5.f = 0
      · rw [if_neg (by omega)]
        by_cases hpl : y5.pl < xs.length
        · rw [if_pos hpl]; constructor
          · intro h; exact absurd h (by decide)
          · intro h; omega
        · rw [if_neg hpl]; constructor
          · intro _; exact ⟨hq0, by omega⟩
          · intro _; rfl
      · rw [if_pos hq0]; constructor
        · intro h; exact absurd h (errL_ne _ hq0 hq4)
        · intro h; exact absurd h.1 hq0
    exact this
  obtain ⟨fv, hfv⟩ : ∃ fv : Int, fv = faultC cm := ⟨_, rfl⟩
  rw [← hfv] at HFT ⊢
  clear hev hfv hT
  have hlx : decide (65536 < (xs.length : Int)) = false := decide_eq_false (by omega)
  obtain ⟨ao, cap, rfl, _⟩ := hv
  by_cases he0 : ev = 0
  · have HPQ := HEV.out.1 he0
    have HPQ : Hid (y5.f = 0 ∧ y5.pl = xs.length) := HPQ
    subst he0
    by_cases hf0 : fv = 0
    · have HOK : Hid (y5.f = 0 ∧ y5.pl = xs.length ∧ fv = 0) := ⟨HPQ.out.1, HPQ.out.2, hf0⟩
      subst hf0
      clear HEV HPQ
      go_enter Tryz.func34, Tryz.ntmps34
      go_wp2_with (first
        | (go_at_call 47; refine hread.mono ?_; rintro e w1 ⟨r, g, rfl, hr1, hk1, hrs, hgs⟩
           have HR1 : Hid (Rdr w1 r g xs 0 0) := hr1
           have HK1 : Hid (Kept [] w w1) := hk1
           clear hr1 hk1)
        | (go_at_call 48; refine (HU8.out _ r g HR1.out).mono ?_; rintro e w2 ⟨rfl, hr2, hk2⟩
           have HR2 : Hid (Rdr w2 r g xs y0.pl y0.f) := hr2
           have HK2 : Hid (Kept [] w w2) := kept_new HK1.out hk2 hrs
           clear hr2 hk2)
        | (go_at_call 52; refine (HRT.out _ r g HR2.out).mono ?_; rintro e w3 ⟨b2, rfl, hrow3, hb3, hr3, hk3⟩
           have HR3 : Hid (Rdr w3 r g xs y5.pl y5.f) := hr3
           have HW3 : Hid (RowsIn w3 b2 36 (ps.map idRow)) := hrow3
           have HB5 : Hid (w.heap.size ≤ b2) := Nat.le_trans HK2.out.size hb3
           have HK3 : Hid (Kept [] w w3) := kept_new HK2.out hk3 hrs
           clear hr3 hrow3 hb3 hk3)
        | (go_at_call 54; refine (HEND.out _ r g HR3.out).mono ?_; rintro e w4 ⟨rfl, n4, rfl⟩
           have HK4 : Hid (Kept [] w (w3.drewN n4)) := HK3.out.drewN n4
           have HW4 : Hid (RowsIn (w3.drewN n4) b2 36 (ps.map idRow)) := HW3.out.kept (T := []) ((Kept.refl _ _).drewN n4) (by simp))
        | (go_at_call 143; refine (HFT.out _ b2 HW4.out HK4.out).mono ?_; rintro e w5 ⟨rfl, hk5⟩
           have HK5 : Hid (Kept [] w w5) := HK4.out.then hk5
           have HR5 : Hid (RowsIn w5 b2 36 (ps.map idRow)) := HW4.out.kept hk5 (by simp)
           clear hk5))
      refine bodyPost_ret (v := .tuple #[.iface 102 (.agg (cm.row (.slice (some ⟨b2, 0, none⟩) n n)).toArray), .int .i64 0]) (by simp [results, Tryz.results34, go_sem]) rfl ⟨HK5.out, fun _ => ⟨b2, rfl, HR5.out, HB5.out⟩, fun h => absurd HOK.out h⟩
    · have HNO : Hid (¬ (y5.f = 0 ∧ y5.pl = xs.length ∧ fv = 0)) := fun h => hf0 h.2.2
      have hne : (fv != 0) = true := bne_iff_ne.2 hf0
      clear HEV HPQ hf0
      go_enter Tryz.func34, Tryz.ntmps34
      go_wp2_with (first
        | (go_at_call 47; refine hread.mono ?_; rintro e w1 ⟨r, g, rfl, hr1, hk1, hrs, hgs⟩
           have HR1 : Hid (Rdr w1 r g xs 0 0) := hr1
           have HK1 : Hid (Kept [] w w1) := hk1
           clear hr1 hk1)
        | (go_at_call 48; refine (HU8.out _ r g HR1.out).mono ?_; rintro e w2 ⟨rfl, hr2, hk2⟩
           have HR2 : Hid (Rdr w2 r g xs y0.pl y0.f) := hr2
           have HK2 : Hid (Kept [] w w2) := kept_new HK1.out hk2 hrs
           clear hr2 hk2)
        | (go_at_call 52; refine (HRT.out _ r g HR2.out).mono ?_; rintro e w3 ⟨b2, rfl, hrow3, hb3, hr3, hk3⟩
           have HR3 : Hid (Rdr w3 r g xs y5.pl y5.f) := hr3
           have HW3 : Hid (RowsIn w3 b2 36 (ps.map idRow)) := hrow3
           have HB5 : Hid (w.heap.size ≤ b2) := Nat.le_trans HK2.out.size hb3
           have HK3 : Hid (Kept [] w w3) := kept_new HK2.out hk3 hrs
           clear hr3 hrow3 hb3 hk3)
        | (go_at_call 54; refine (HEND.out _ r g HR3.out).mono ?_; rintro e w4 ⟨rfl, n4, rfl⟩
           have HK4 : Hid (Kept [] w (w3.drewN n4)) := HK3.out.drewN n4
           have HW4 : Hid (RowsIn (w3.drewN n4) b2 36 (ps.map idRow)) := HW3.out.kept (T := []) ((Kept.refl _ _).drewN n4) (by simp))
        | (go_at_call 143; refine (HFT.out _ b2 HW4.out HK4.out).mono ?_; rintro e w5 ⟨rfl, hk5⟩
           have HK5 : Hid (Kept [] w w5) := HK4.out.then hk5
           have HR5 : Hid (RowsIn w5 b2 36 (ps.map idRow)) := HW4.out.kept hk5 (by simp)
           clear hk5))
      refine bodyPost_ret (v := .tuple #[.nilIface, .int .i64 37]) (by simp [results, Tryz.results34, go_sem]) rfl ⟨HK5.out, fun h => absurd h HNO.out, fun _ => rfl⟩
  · have HNO : Hid (¬ (y5.f = 0 ∧ y5.pl = xs.length ∧ fv = 0)) := fun h => he0 (HEV.out.2 ⟨h.1, h.2.1⟩)
    have hne : (ev != 0) = true := bne_iff_ne.2 he0
    clear HEV he0
    go_enter Tryz.func34, Tryz.ntmps34
    go_wp2_with (first
        | (go_at_call 47; refine hread.mono ?_; rintro e w1 ⟨r, g, rfl, hr1, hk1, hrs, hgs⟩
           have HR1 : Hid (Rdr w1 r g xs 0 0) := hr1
           have HK1 : Hid (Kept [] w w1) := hk1
           clear hr1 hk1)
        | (go_at_call 48; refine (HU8.out _ r g HR1.out).mono ?_; rintro e w2 ⟨rfl, hr2, hk2⟩
           have HR2 : Hid (Rdr w2 r g xs y0.pl y0.f) := hr2
           have HK2 : Hid (Kept [] w w2) := kept_new HK1.out hk2 hrs
           clear hr2 hk2)
        | (go_at_call 52; refine (HRT.out _ r g HR2.out).mono ?_; rintro e w3 ⟨b2, rfl, hrow3, hb3, hr3, hk3⟩
           have HR3 : Hid (Rdr w3 r g xs y5.pl y5.f) := hr3
           have HW3 : Hid (RowsIn w3 b2 36 (ps.map idRow)) := hrow3
           have HB5 : Hid (w.heap.size ≤ b2) := Nat.le_trans HK2.out.size hb3
           have HK3 : Hid (Kept [] w w3) := kept_new HK2.out hk3 hrs
           clear hr3 hrow3 hb3 hk3)
        | (go_at_call 54; refine (HEND.out _ r g HR3.out).mono ?_; rintro e w4 ⟨rfl, n4, rfl⟩
           have HK4 : Hid (Kept [] w (w3.drewN n4)) := HK3.out.drewN n4
           have HW4 : Hid (RowsIn (w3.drewN n4) b2 36 (ps.map idRow)) := HW3.out.kept (T := []) ((Kept.refl _ _).drewN n4) (by simp))
        | (go_at_call 143; refine (HFT.out _ b2 HW4.out HK4.out).mono ?_; rintro e w5 ⟨rfl, hk5⟩
           have HK5 : Hid (Kept [] w w5) := HK4.out.then hk5
           have HR5 : Hid (RowsIn w5 b2 36 (ps.map idRow)) := HW4.out.kept hk5 (by simp)
           clear hk5))
    refine bodyPost_ret (v := .tuple #[.nilIface, .int .i64 37]) (by simp [results, Tryz.results34, go_sem]) rfl ⟨HK4.out, fun h => absurd h HNO.out, fun _ => rfl⟩
end Go.Proofs.YtddhhjgegkkjbaaGreatDoor
