/-
  WALK: satchellaw2.DigestStream, for every text and cuts.
-/
import Derived.Test.YtbhhkonhoknifaaDoorDSt0
namespace Go.Proofs.YtbhhkonhoknifaaDoor
open Go.RowKit

/-- What is written beside: two bytes a round. -/
def besL (k : Nat) : List Int := (List.range k).flatMap fun (i : Nat) => [1, (i : Int) % 256]
theorem besL_succ (k : Nat) : besL (k + 1) = besL k ++ [1, (k : Int) % 256] := by
  unfold besL; rw [List.range_succ, List.flatMap_append]; simp
theorem besL_len (k : Nat) : (besL k).length = 2 * k := by
  induction k with
  | zero => rfl
  | succ k ih => rw [besL_succ, List.length_append, ih]; simp; omega
theorem besL_octs (k : Nat) : Octs (besL k) := by
  induction k with
  | zero => intro u hu; cases hu
  | succ k ih =>
    rw [besL_succ]
    intro u hu
    rcases List.mem_append.1 hu with h | h
    · exact ih u h
    · simp at h
      omega

/-- All that the walk holds of a world. -/
structure SEnv (w W : World) (tb B h o : Nat) (bx : Array Value) (v6 : Value) (xa yb yc : List Int) : Prop where
  box : W.heap[tb]? = some (.cells bx 41 (0, 0))
  hh : HashX W h xa
  ho : HashX W o yb
  own : OwnB W B v6 yc
  kept : Kept [] w W
theorem OwnB.nil (w : World) (B : Nat) : OwnB w B (.slice none 0 0) [] := World.ownsRow_nil _ _ _ _
theorem SEnv.next {S : List Nat} {w W W' : World} {tb B h o : Nat} {bx : Array Value} {v6 : Value} {xa yb yc : List Int} (e : SEnv w W tb B h o bx v6 xa yb yc) (k : Kept S W W')
    (hs : ∀ x ∈ S, w.heap.size ≤ x ∧ x ≠ tb ∧ x ≠ h ∧ x ≠ o ∧ v6.ownBlock ≠ some x) : SEnv w W' tb B h o bx v6 xa yb yc :=
  ⟨k.heap e.box (fun hm => (hs _ hm).2.1 rfl), e.hh.kept k (fun hm => (hs _ hm).2.2.1 rfl), e.ho.kept k (fun hm => (hs _ hm).2.2.2.1 rfl), e.own.kept k (fun _ hx hm => (hs _ hm).2.2.2.2 hx), e.kept.trans k (fun x hx => Or.inr (hs x hx).1)⟩

theorem SEnv.cell {w W : World} {tb B h o : Nat} {bx : Array Value} {v6 : Value} {xa yb yc : List Int} (e : SEnv w W tb B h o bx v6 xa yb yc) {a0 a1 a2 : Value} (hb : bx = #[a0, a1, a2]) : W.cell? ⟨tb, 0, none⟩ = some a0 ∧ W.cell? ⟨tb, 2, none⟩ = some a2 := by
  subst hb
  exact ⟨by rw [cell_of_row _ _ _ _ _ _ e.box]; rfl, by rw [cell_of_row _ _ _ _ _ _ e.box]; rfl⟩
/-- A piece is written to the first Hash. -/
theorem SEnv.write {w W W' : World} {tb B h o : Nat} {bx : Array Value} {v6 : Value} {xa yb yc xa' : List Int} (e : SEnv w W tb B h o bx v6 xa yb yc) (k : Kept [h] W W') (hX : HashX W' h xa') (h1 : w.heap.size ≤ h) (h2 : h ≠ tb) (h3 : h ≠ o) (h4 : h < B) : SEnv w W' tb B h o bx v6 xa' yb yc :=
  ⟨k.heap e.box (by simpa using fun q => h2 q.symm), hX, e.ho.kept k (by simpa using fun q => h3 q.symm), e.own.kept k (fun x hx hm => by have := (World.ownsRow.lt e.own x hx).1; simp at hm; omega), e.kept.trans k (fun x hx => Or.inr (by simp at hx; omega))⟩
/-- Two bytes are written to the second one. -/
theorem SEnv.write2 {w W W' : World} {tb B h o : Nat} {bx : Array Value} {v6 : Value} {xa yb yc yb' : List Int} (e : SEnv w W tb B h o bx v6 xa yb yc) (k : Kept [o] W W') (hX : HashX W' o yb') (h1 : w.heap.size ≤ o) (h2 : o ≠ tb) (h3 : h ≠ o) (h4 : o < B) : SEnv w W' tb B h o bx v6 xa yb' yc :=
  ⟨k.heap e.box (by simpa using fun q => h2 q.symm), e.hh.kept k (by simpa using h3), hX, e.own.kept k (fun x hx hm => by have := (World.ownsRow.lt e.own x hx).1; simp at hm; omega), e.kept.trans k (fun x hx => Or.inr (by simp at hx; omega))⟩

/-- The list beside is appended to. -/
theorem SEnv.append {w W W' : World} {tb B h o : Nat} {bx : Array Value} {v6 v' : Value} {xa yb yc yc' : List Int} (e : SEnv w W tb B h o bx v6 xa yb yc) (hg : W.grownBy W' v6.ownBlock) (ho' : OwnB W' B v' yc') (h0 : w.heap.size ≤ B) (h1 : tb < B) (h2 : h < B) (h3 : o < B) : SEnv w W' tb B h o bx v' xa yb yc' := by
  have hb : ∀ x, v6.ownBlock = some x → B ≤ x := fun x hx => (World.ownsRow.lt e.own x hx).1
  have k : Kept v6.ownBlock.toList W W' := (Kept.refl _ W).grown hg (fun k hk => Or.inl (by simp [hk]))
  have hn : ∀ y, y < B → y ∉ v6.ownBlock.toList := fun y hy hm => by
    have := hb y (by simpa using hm)
    omega
  exact ⟨k.heap e.box (hn _ h1), e.hh.kept k (hn _ h2), e.ho.kept k (hn _ h3), ho', e.kept.trans k (fun x hx => Or.inr (by have := hb x (by simpa using hx); omega))⟩
theorem two_new (W : World) (a b : Int) : ∀ j u, [Value.int .u8 a, .int .u8 b][j]? = some u → (W.alloc (.cells #[.int .u8 a, .int .u8 b] 5)).cell? ((⟨W.heap.size, 0, none⟩ : Addr).add j) = some u := by
  intro j u hj
  rw [Addr.add_mid, Nat.zero_add, cell_of_row _ _ _ _ _ _ (heap_alloc_new W _), ← Array.getElem?_toList]
  exact hj
theorem Lent.row {w : World} {B g cap : Nat} {ys : List Int} (h : Lent w B g cap ys) : ∃ cur, w.heap[g]? = some (.cells cur 5 (0, 0)) ∧ ys.length ≤ cur.size := by
  rcases h.2 with ⟨_, h0⟩ | ⟨g', cap', cur, hv, hg, hh, hnc, hcm, hcs, htk⟩
  · simp at h0
  · injection hv with a1 a2 a3
    injection a1 with a1
    injection a1 with a1
    subst a1
    refine ⟨cur, hh, ?_⟩
    simp at hnc
    omega

set_option maxRecDepth 100000 in
set_option maxHeartbeats 8000000 in
theorem digestStream_any (w : World) (hV : Vars w) (ao : Option Addr) (cap : Nat) (xs : List Int) (hx : BytesAt w (.slice ao xs.length cap) xs) (hox : Octs xs) (hsx : xs.length ≤ 140737488351232) (kv : Value) (co : Option Addr) (ccap : Nat) (cs : List Int) (hcs : IntsAt w co cs) :
    Calls Tryd.prog 6 #[.agg #[.slice ao xs.length cap, kv, .slice co cs.length ccap]] w fun e w' => e = .returned (.bool true) ∧ Kept [] w w' := by
  have HV : Hid (∀ W, Kept [] w W → Vars W) := fun W hk => hV.kept hk (by simp) (by simp)
  obtain ⟨bx, hbx⟩ : ∃ bx : Array Value, bx = #[.slice ao xs.length cap, kv, .slice co cs.length ccap] := ⟨_, rfl⟩
  have HBX : Hid (bx = #[.slice ao xs.length cap, kv, .slice co cs.length ccap]) := hbx
  have HN := NewX_any (w.alloc (.cells bx 41)) (HV.out _ ((Kept.refl [] w).alloc _))
  rw [show (w.alloc (.cells bx 41)).heap.size = w.heap.size + 1 by simp, hbx] at HN
  have hlt := hV.lt
  clear hV hbx
  go_enter Tryd.func6, Tryd.ntmps6
  go_wp2_with (first
    | (go_at_call 8; first
       | (refine HN.mono ?_; rintro e w1 ⟨rfl, hH1, hk1⟩
          have HK1 : Hid (Kept [] w w1) := ((Kept.refl [] w).alloc _).then hk1
          have HB1 : Hid (w1.heap[w.heap.size]? = some (.cells bx 41 (0, 0))) := by
            show _ = _
            rw [HBX.out]; exact hk1.heap (heap_alloc_new w _) (by simp)
          have HH1 : Hid (HashX w1 (w.heap.size + 1) []) := hH1
          have HN2 := NewX_any w1 (HV.out w1 HK1.out)
          clear hH1 hk1 HN)
       | (refine HN2.mono ?_; rintro e w2 ⟨rfl, hH2, hk2⟩
          have HK2 : Hid (Kept [] w w2) := HK1.out.then hk2
          have HE2 : Hid (SEnv w w2 w.heap.size (w1.heap.size + 1) (w.heap.size + 1) w1.heap.size bx (.slice none 0 0) [] [] []) := ⟨hk2.heap HB1.out (by simp), HH1.out.kept hk2 (by simp), hH2, OwnB.nil _ _, HK2.out⟩
          have HR := right2_any w2 (HV.out w2 HK2.out)
          clear hH2 hk2 HN2))
    | (go_at_call 10; refine HR.mono ?_; rintro e w3 ⟨rfl, hk3⟩
       have HE3 : Hid (SEnv w w3 w.heap.size (w1.heap.size + 1) (w.heap.size + 1) w1.heap.size bx (.slice none 0 0) [] [] []) := HE2.out.next hk3 (by simp)
       clear hk3 HR))
  have hho : w.heap.size + 1 < w1.heap.size := HH1.out.lt
  have hoB : w1.heap.size < w1.heap.size + 1 := Nat.lt_succ_self _
  clear HE2 HH1 HB1 HK1 HK2
  go_loopw [5, 6, 7] (fun s5 s6 s7 wr => ∃ i p : Nat, s7 = .int .i64 i ∧ s5 = .int .i64 p ∧ i ≤ cs.length + 1 ∧ i ≤ 4097 ∧ p ≤ xs.length ∧ Hid (cs.length < i ∨ 4096 < i → p = xs.length) ∧ Hid (SEnv w wr w.heap.size (w1.heap.size + 1) (w.heap.size + 1) w1.heap.size bx s6 (xs.take p) (besL i) (besL i))) (fun _ _ s7 _ => 4097 - (intOf s7).toNat)
  case atStart => exact ⟨0, 0, rfl, rfl, Nat.zero_le _, Nat.zero_le _, Nat.zero_le _, fun h => by omega, HE3⟩
  case round =>
    clear HE3
    obtain ⟨i, p, rfl, rfl, hi1, hi2, hp, HF, HE⟩ := hrel
    obtain ⟨c0, c2⟩ := HE.out.cell HBX.out
    by_cases hA : i < cs.length ∧ i < 4096
    · obtain ⟨hA1, hA2⟩ := hA
      obtain ⟨cb, coff, rfl, hcc⟩ := hcs (by rintro rfl; simp at hA1)
      obtain ⟨u, hu⟩ : ∃ u, cs[i]? = some u := ⟨_, List.getElem?_eq_getElem hA1⟩
      have cu : wr.cell? ⟨cb, coff + i, none⟩ = some (.int .i64 u) := HE.out.kept.cell (hcc i u hu) (by simp)
      obtain ⟨L, hL⟩ : ∃ L, L = xs.length - p := ⟨_, rfl⟩
      have hLi : (xs.length : Int) - (p : Int) = (L : Int) := by omega
      obtain ⟨n, hn, hnL⟩ : ∃ n : Nat, u % ((L : Int) + 1) = (n : Int) ∧ n ≤ L := by
        have h1 := Int.emod_nonneg u (by omega : (L : Int) + 1 ≠ 0)
        have h2 := Int.emod_lt_of_pos u (by omega : 0 < (L : Int) + 1)
        exact ⟨(u % ((L : Int) + 1)).toNat, by omega, by omega⟩
      have hpn : p + n ≤ xs.length := by omega
      have HF' : Hid (cs.length < i + 1 ∨ 4096 < i + 1 → p + n = xs.length) := fun h => by omega
      clear hcc hu hL
      obtain ⟨zs, hzs⟩ : ∃ zs, zs = (xs.drop p).take n := ⟨_, rfl⟩
      have hzl : zs.length = n := by rw [hzs, List.length_take, List.length_drop]; omega
      have HZO : Hid (Octs zs) := by rw [hzs]; exact octs_take (octs_drop hox p) n
      have HZT : Hid (xs.take p ++ zs = xs.take (p + n)) := by
        show _ = _
        rw [hzs, List.take_add]
      have hsn : zs.length ≤ 140737488351232 := by omega
      obtain ⟨pv, hcut, hpb, hpq⟩ := hx.cut p n (by omega)
      rw [← hzs] at hpb
      have HPB : Hid (∀ W, Kept [] w W → BytesAt W pv zs) := fun W hk => hpb.kept' hk (by simp)
      obtain ⟨m, hm⟩ : ∃ m, p + n = m := ⟨_, rfl⟩
      rw [hm] at hcut HZT HF'
      have HC : Hid (∀ W, (Instr.slice 24 (.slice ao xs.length cap) (some (.int .i64 p)) (some (.int .i64 (m : Int))) none).run Tryd.prog W = .ok pv W) := hcut
      have r3 : (p : Int) + (n : Int) = (m : Int) := by omega
      have hmx : m ≤ xs.length := by omega
      clear hpb hpq hcut hzs hm
      go_wp2_with (first
        | (go_at_call 15; refine (within_any u ((L : Int) + 1) _ (by omega) (by omega)).mono ?_; rintro e w9 ⟨rfl, rfl⟩; rw [hn])
        | (refine wpList_cut rfl (.tmp 57) (.tmp 58) (.tmp 61) rfl (.slice ao xs.length cap) rfl p (m : Int) rfl rfl pv HC.out ?_)
        | (go_at_call 17; refine (Lend_any pv zs _ (HPB.out _ HE.out.kept) hsn).mono ?_; rintro e w4 ⟨g, gcap, rfl, hL4, hk4⟩
           have HL4 : Hid (Lent w4 wr.heap.size g gcap zs) := hL4
           have HE4 : Hid (SEnv w w4 w.heap.size (w1.heap.size + 1) (w.heap.size + 1) w1.heap.size bx u6 (xs.take p) (besL i) (besL i)) := HE.out.next hk4 (by simp)
           have HG4 : Hid (wr.heap.size ≤ g) := hL4.room.2.2.1
           have HW4 := WriteX_any w4 (w.heap.size + 1) (xs.take p) _ zs (HV.out w4 HE4.out.kept) HE4.out.hh hL4.bytes HZO.out (fun q hq _ => apart_new (Nat.lt_of_lt_of_le HE.out.hh.lt HG4.out) q hq) (by omega) (by rw [List.length_take]; omega)
           rw [hzl]
           rw [hzl] at HW4
           clear hL4 hk4)
        | (go_at_call 9; first
           | (refine HW4.mono ?_; rintro e w5 ⟨rfl, hH5, hk5⟩
              rw [HZT.out] at hH5
              have HE5 : Hid (SEnv w w5 w.heap.size (w1.heap.size + 1) (w.heap.size + 1) w1.heap.size bx u6 (xs.take m) (besL i) (besL i)) := HE4.out.write hk5 hH5 (Nat.le_succ _) (Nat.succ_ne_self _) (Nat.ne_of_lt hho) (Nat.lt_trans hho hoB)
              have HL5 : Hid (Lent w5 wr.heap.size g gcap zs) := HL4.out.kept hk5 (by simpa using Nat.ne_of_gt (Nat.lt_of_lt_of_le HE.out.hh.lt HG4.out))
              obtain ⟨d0, d2⟩ := HE5.out.cell HBX.out
              have HI5 := Intact_any HL5.out (HPB.out w5 HE5.out.kept) hsn
              rw [hzl] at HI5
              clear hH5 hk5 HW4))
        | (refine wpList_cut rfl (.tmp 69) (.tmp 70) (.tmp 73) rfl (.slice ao xs.length cap) rfl p (m : Int) rfl rfl pv HC.out ?_)
        | (go_at_call 18; refine HI5.mono ?_; rintro e w6 ⟨rfl, hw6⟩; subst w6))
      obtain ⟨cur, hcur, hcl⟩ := HL5.out.row
      have HC5 : Hid (w5.heap[g]? = some (.cells cur 5 (0, 0))) := hcur
      have hgn : n ≤ cur.size := by omega
      clear hcur hcl HI5
      have HGS : Hid (∀ x ∈ [g], w.heap.size ≤ x ∧ x ≠ w.heap.size ∧ x ≠ w.heap.size + 1 ∧ x ≠ w1.heap.size ∧ u6.ownBlock ≠ some x) := by
        intro x hx
        obtain rfl : x = g := by simpa using hx
        have h1 := HE.out.hh.lt
        have h2 := HE.out.ho.lt
        have h3 := HG4.out
        exact ⟨by omega, by omega, by omega, by omega, fun h => by have := (World.ownsRow.lt HE.out.own x h).2; omega⟩
      clear HL5 HL4 HE4 HG4 HE d0 d2
      go_loopw [10] (fun s10 wq => ∃ k : Nat, k ≤ n ∧ s10 = .int .i64 k ∧ Hid (∃ cur, wq.heap[g]? = some (.cells cur 5 (0, 0)) ∧ n ≤ cur.size) ∧ Hid (Kept [g] w5 wq)) (fun s10 _ => n - (intOf s10).toNat)
      case atStart => exact ⟨0, Nat.zero_le _, rfl, ⟨cur, HC5.out, hgn⟩, Kept.refl _ _⟩
      case round =>
        clear HC5 hgn
        obtain ⟨k, hk, rfl, HC6, HK6⟩ := hrel
        by_cases hkn : k < n
        · obtain ⟨cur6, hcur6, hcl6⟩ := HC6.out
          have ck : ∃ u, wr.cell? ⟨g, k, none⟩ = some u := by
            rw [cell_of_row _ _ _ _ _ _ hcur6]
            exact ⟨_, Array.getElem?_eq_getElem (by omega)⟩
          obtain ⟨u', ck⟩ := ck
          have fk := frozen_of_row wr g k _ _ hcur6
          have HC7 : Hid (∀ x, ∃ cur, (wr.setCell ⟨g, k, none⟩ x).heap[g]? = some (.cells cur 5 (0, 0)) ∧ n ≤ cur.size) := fun x => ⟨_, heap_setCell_same _ _ _ _ _ _ hcur6, by simpa using hcl6⟩
          clear hcur6 hcl6
          go_wp2
          go_roundw
          case rel => exact ⟨k + 1, by omega, by go_num, HC7.out _, HK6.out.setCell (Or.inl (by simp)) _⟩
          case measure => simp [intOf]; omega
        · obtain rfl : k = n := by omega
          have HE6 : Hid (SEnv w wr w.heap.size (w1.heap.size + 1) (w.heap.size + 1) w1.heap.size bx u6 (xs.take m) (besL i) (besL i)) := HE5.out.next HK6.out HGS.out
          clear HC6 HK6 HGS
          have HA6 : Hid (SEnv w (wr.alloc (.cells #[.int .u8 1, .int .u8 ((i : Int) % 256)] 5)) w.heap.size (w1.heap.size + 1) (w.heap.size + 1) w1.heap.size bx u6 (xs.take m) (besL i) (besL i)) := HE6.out.next ((Kept.refl [] wr).alloc _) (by simp)
          have HW6 := WriteX_any (wr.alloc (.cells #[.int .u8 1, .int .u8 ((i : Int) % 256)] 5)) w1.heap.size (besL i) (.slice (some ⟨wr.heap.size, 0, none⟩) 2 2) [1, (i : Int) % 256] (HV.out _ HA6.out.kept) HA6.out.ho (row_bytes_any (ys := [1, (i : Int) % 256]) (heap_alloc_new wr _)) (by intro u hu; simp at hu; omega) (fun q hq _ => apart_new HE6.out.ho.lt q hq) (by simp) (by rw [besL_len]; omega)
          rw [← besL_succ] at HW6
          obtain ⟨i0, hi0, hz0, hz1, hz2⟩ := info_parts Tryd.info_u8
          have hbl := besL_len i
          have HX0 := hx
          go_wp2_with (first
            | (go_at_call 9; refine HW6.mono ?_; rintro e w7 ⟨rfl, hH7, hk7⟩
               have HE7 : Hid (SEnv w w7 w.heap.size (w1.heap.size + 1) (w.heap.size + 1) w1.heap.size bx u6 (xs.take m) (besL (i + 1)) (besL i)) := HA6.out.write2 hk7 hH7 (by omega) (by omega) (by omega) (by omega)
               have HA7 : Hid (SEnv w (w7.alloc (.cells #[.int .u8 1, .int .u8 ((i : Int) % 256)] 5)) w.heap.size (w1.heap.size + 1) (w.heap.size + 1) w1.heap.size bx u6 (xs.take m) (besL (i + 1)) (besL i)) := HE7.out.next ((Kept.refl [] w7).alloc _) (by simp)
               have hB7 : w1.heap.size + 1 ≤ (w7.alloc (.cells #[.int .u8 1, .int .u8 ((i : Int) % 256)] 5)).heap.size := HA7.out.ho.lt
               have ho7 : (w7.alloc (.cells #[.int .u8 1, .int .u8 ((i : Int) % 256)] 5)).ownsRow (w1.heap.size + 1) 5 1 u6 (besL i).length ((besL i).map (Value.int .u8)) := HA7.out.own
               clear hH7 hk7 HW6)
            | (at_builtin; refine wpList_append_own_at _ rfl (.tmp 90) (.tmp 93) 24 rfl (w1.heap.size + 1) 5 i0 (.int .u8 0) 1 1 Tryd.underlying24 hi0 hz0 hz1 hz2 rfl (by decide) u6 (besL i).length ((besL i).map (Value.int .u8)) rfl ho7 ⟨w7.heap.size, 0, none⟩ 2 2 [.int .u8 1, .int .u8 ((i : Int) % 256)] rfl rfl (two_new w7 _ _) (by simp [Value.oneCell']) (by unfold maxLen; omega) (by omega) hB7 ?_; intro v' w8 ho8 hgr8 hnil8 hat8
               have hO8 : OwnB w8 (w1.heap.size + 1) v' (besL (i + 1)) := by
                 unfold OwnB
                 rw [besL_succ, List.length_append, List.map_append]
                 exact ho8
               have HE8 : Hid (SEnv w w8 w.heap.size (w1.heap.size + 1) (w.heap.size + 1) w1.heap.size bx v' (xs.take m) (besL (i + 1)) (besL (i + 1))) := HA7.out.append hgr8 hO8 (by omega) (by omega) (by omega) (by omega)
               clear ho8 hgr8 hnil8 hat8 hO8 ho7 hB7))
          obtain ⟨pw, hpw, hpwb⟩ := hx.cutTo m hmx
          have HSP : Hid (∀ W, Kept [] w8 W → Calls Tryd.prog 12 #[pw] W fun e w' => e = .returned (.agg (idC (digL (xs.take m)))) ∧ Kept [] w8 w') := fun W hW =>
            (Sum_any W pw (xs.take m) (HV.out W (HE8.out.kept.then hW)) (hpwb.kept' (HE8.out.kept.then hW) (by simp)) (octs_take hox m) (by rw [List.length_take]; omega)).mono fun e w' h => ⟨h.1, hW.then h.2⟩
          have HSM : Hid (∀ W, Kept [] w8 W → Calls Tryd.prog 13 #[.pointer (some ⟨w.heap.size + 1, 0, none⟩)] W fun e w' => e = .returned (.agg (idC (digL (xs.take m)))) ∧ Kept [] w8 w') := fun W hW =>
            (SumX_any W (w.heap.size + 1) (xs.take m) (HV.out W (HE8.out.kept.then hW)) (HE8.out.hh.kept hW (by simp))).mono fun e w' h => ⟨h.1, hW.then h.2⟩
          have HC0 : Hid (∀ W, Kept [] w8 W → W.cell? ⟨w.heap.size, 0, none⟩ = some (.slice ao xs.length cap)) := fun W hW => hW.cell (HE8.out.cell HBX.out).1 (by simp)
          have heq : ∀ W, (Op.equalIn 10000 29 (.agg (idC (digL (xs.take m)))) (.agg (idC (digL (xs.take m))))).run Tryd.prog W = .ok true W := fun W => by rw [idEq _ _ W (digL_len _) (digL_len _), decide_eq_true rfl]
          obtain ⟨t3, ht3⟩ : ∃ t3, Int.tmod (i : Int) 3 = t3 := ⟨_, rfl⟩
          clear hpwb
          by_cases hz : t3 = 0
          · have hzb : (t3 == 0) = true := by rw [hz]; rfl
            clear hz
            refine region_quiet (Kept [] w8) (by kernel_rfl) (by kernel_rfl) (Kept.refl [] w8).drew ?_
            refine quiet_move (by rfl) (.tmp 7) rfl (.int .i64 i) rfl ?_
            simp only [Act.put, List.setIfInBounds_toArray, List.set_cons_zero, List.set_cons_succ]
            refine quiet_val (by rfl) (.int .i64 t3) (fun W => by go_simp) ?_
            simp only [Act.put, List.setIfInBounds_toArray, List.set_cons_zero, List.set_cons_succ]
            refine quiet_val (by rfl) (.bool true) (fun W => by go_simp) ?_
            simp only [Act.put, List.setIfInBounds_toArray, List.set_cons_zero, List.set_cons_succ]
            refine quiet_move (by rfl) (.tmp 100) rfl (.bool true) rfl ?_
            simp only [Act.put, List.setIfInBounds_toArray, List.set_cons_zero, List.set_cons_succ]
            with_reducible refine wpQuiet_step ?_
            intro K hK
            rw [if_pos (by go_simp)]
            refine move_at (.tmp 3) rfl (.pointer (some ⟨w.heap.size + 1, 0, none⟩)) rfl (hK _ ?_)
            clear hK K
            simp only [Act.put, List.setIfInBounds_toArray, List.set_cons_zero, List.set_cons_succ]
            with_reducible refine wpQuiet_step ?_
            intro K hK
            rw [if_pos (by go_simp)]
            refine call_at 13 #[.pointer (some ⟨w.heap.size + 1, 0, none⟩)] (.agg (idC (digL (xs.take m)))) (fun W => by go_simp) (fun W hW => HSM.out W hW) (hK _ ?_)
            clear hK K
            simp only [Act.put, List.setIfInBounds_toArray, List.set_cons_zero, List.set_cons_succ]
            with_reducible refine wpQuiet_step ?_
            intro K hK
            rw [if_pos (by go_simp)]
            refine val_at (.pointer (some ⟨w.heap.size, 0, none⟩)) (fun W => by go_simp) (hK _ ?_)
            clear hK K
            simp only [Act.put, List.setIfInBounds_toArray, List.set_cons_zero, List.set_cons_succ]
            with_reducible refine wpQuiet_step ?_
            intro K hK
            rw [if_pos (by go_simp)]
            refine valC_at (.slice ao xs.length cap) (fun W hW => by have c0 := HC0.out W hW; go_simp) (hK _ ?_)
            clear hK K
            simp only [Act.put, List.setIfInBounds_toArray, List.set_cons_zero, List.set_cons_succ]
            with_reducible refine wpQuiet_step ?_
            intro K hK
            rw [if_pos (by go_simp)]
            refine move_at (.tmp 5) rfl (.int .i64 m) rfl (hK _ ?_)
            clear hK K
            simp only [Act.put, List.setIfInBounds_toArray, List.set_cons_zero, List.set_cons_succ]
            with_reducible refine wpQuiet_step ?_
            intro K hK
            rw [if_pos (by go_simp)]
            refine val_at pw (fun W => by have h := hpw W; go_simp) (hK _ ?_)
            clear hK K
            simp only [Act.put, List.setIfInBounds_toArray, List.set_cons_zero, List.set_cons_succ]
            with_reducible refine wpQuiet_step ?_
            intro K hK
            rw [if_pos (by go_simp)]
            refine call_at 12 #[pw] (.agg (idC (digL (xs.take m)))) (fun W => by go_simp) (fun W hW => HSP.out W hW) (hK _ ?_)
            clear hK K
            simp only [Act.put, List.setIfInBounds_toArray, List.set_cons_zero, List.set_cons_succ]
            with_reducible refine wpQuiet_step ?_
            intro K hK
            rw [if_pos (by go_simp)]
            refine neq_at (.tmp 103) (.tmp 108) _ rfl _ _ rfl rfl true heq (hK _ ?_)
            clear hK K
            simp only [Act.put, List.setIfInBounds_toArray, List.set_cons_zero, List.set_cons_succ]
            refine quiet_val (by rfl) (.bool false) (fun W => by go_simp) ?_
            simp only [Act.put, List.setIfInBounds_toArray, List.set_cons_zero, List.set_cons_succ]
            refine wpQuiet_nil fun w9 hk9 => ?_
            have HE9 : Hid (SEnv w w9 w.heap.size (w1.heap.size + 1) (w.heap.size + 1) w1.heap.size bx v' (xs.take m) (besL (i + 1)) (besL (i + 1))) := HE8.out.next hk9 (by simp)
            clear hk9
            go_wp2
            go_roundw
            case rel => exact ⟨i + 1, m, by go_num, rfl, by omega, by omega, hmx, HF', HE9⟩
            case measure => simp [intOf]; omega
          · have hzb : (t3 == 0) = false := by rw [beq_eq_false_iff_ne]; exact hz
            clear hz
            refine region_quiet (Kept [] w8) (by kernel_rfl) (by kernel_rfl) (Kept.refl [] w8).drew ?_
            refine quiet_move (by rfl) (.tmp 7) rfl (.int .i64 i) rfl ?_
            simp only [Act.put, List.setIfInBounds_toArray, List.set_cons_zero, List.set_cons_succ]
            refine quiet_val (by rfl) (.int .i64 t3) (fun W => by go_simp) ?_
            simp only [Act.put, List.setIfInBounds_toArray, List.set_cons_zero, List.set_cons_succ]
            refine quiet_val (by rfl) (.bool false) (fun W => by go_simp) ?_
            simp only [Act.put, List.setIfInBounds_toArray, List.set_cons_zero, List.set_cons_succ]
            refine quiet_move (by rfl) (.tmp 100) rfl (.bool false) rfl ?_
            simp only [Act.put, List.setIfInBounds_toArray, List.set_cons_zero, List.set_cons_succ]
            with_reducible refine wpQuiet_step ?_
            intro K hK
            rw [if_neg (by go_simp)]
            refine hK _ ?_
            clear hK K
            simp only [Act.put, List.setIfInBounds_toArray, List.set_cons_zero, List.set_cons_succ]
            with_reducible refine wpQuiet_step ?_
            intro K hK
            rw [if_neg (by go_simp)]
            refine hK _ ?_
            clear hK K
            simp only [Act.put, List.setIfInBounds_toArray, List.set_cons_zero, List.set_cons_succ]
            with_reducible refine wpQuiet_step ?_
            intro K hK
            rw [if_neg (by go_simp)]
            refine hK _ ?_
            clear hK K
            simp only [Act.put, List.setIfInBounds_toArray, List.set_cons_zero, List.set_cons_succ]
            with_reducible refine wpQuiet_step ?_
            intro K hK
            rw [if_neg (by go_simp)]
            refine hK _ ?_
            clear hK K
            simp only [Act.put, List.setIfInBounds_toArray, List.set_cons_zero, List.set_cons_succ]
            with_reducible refine wpQuiet_step ?_
            intro K hK
            rw [if_neg (by go_simp)]
            refine hK _ ?_
            clear hK K
            simp only [Act.put, List.setIfInBounds_toArray, List.set_cons_zero, List.set_cons_succ]
            with_reducible refine wpQuiet_step ?_
            intro K hK
            rw [if_neg (by go_simp)]
            refine hK _ ?_
            clear hK K
            simp only [Act.put, List.setIfInBounds_toArray, List.set_cons_zero, List.set_cons_succ]
            with_reducible refine wpQuiet_step ?_
            intro K hK
            rw [if_neg (by go_simp)]
            refine hK _ ?_
            clear hK K
            simp only [Act.put, List.setIfInBounds_toArray, List.set_cons_zero, List.set_cons_succ]
            with_reducible refine wpQuiet_step ?_
            intro K hK
            rw [if_neg (by go_simp)]
            refine hK _ ?_
            clear hK K
            simp only [Act.put, List.setIfInBounds_toArray, List.set_cons_zero, List.set_cons_succ]
            refine quiet_val (by rfl) (.bool false) (fun W => by go_simp) ?_
            simp only [Act.put, List.setIfInBounds_toArray, List.set_cons_zero, List.set_cons_succ]
            refine wpQuiet_nil fun w9 hk9 => ?_
            have HE9 : Hid (SEnv w w9 w.heap.size (w1.heap.size + 1) (w.heap.size + 1) w1.heap.size bx v' (xs.take m) (besL (i + 1)) (besL (i + 1))) := HE8.out.next hk9 (by simp)
            clear hk9
            go_wp2
            go_roundw
            case rel => exact ⟨i + 1, m, by go_num, rfl, by omega, by omega, hmx, HF', HE9⟩
            case measure => simp [intOf]; omega
    · by_cases hX : i ≤ cs.length ∧ i ≤ 4096
      · obtain ⟨hX1, hX2⟩ := hX
        obtain ⟨n, hL⟩ : ∃ n, n = xs.length - p := ⟨_, rfl⟩
        have hLi : (xs.length : Int) - (p : Int) = (n : Int) := by omega
        have hpn : p + n ≤ xs.length := by omega
        have HF' : Hid (cs.length < i + 1 ∨ 4096 < i + 1 → p + n = xs.length) := fun h => by omega
        clear hL
        by_cases hB : i < cs.length
        · have hB2 : ¬ i < 4096 := fun h => hA ⟨hB, h⟩
          clear hA
          obtain ⟨zs, hzs⟩ : ∃ zs, zs = (xs.drop p).take n := ⟨_, rfl⟩
          have hzl : zs.length = n := by rw [hzs, List.length_take, List.length_drop]; omega
          have HZO : Hid (Octs zs) := by rw [hzs]; exact octs_take (octs_drop hox p) n
          have HZT : Hid (xs.take p ++ zs = xs.take (p + n)) := by
            show _ = _
            rw [hzs, List.take_add]
          have hsn : zs.length ≤ 140737488351232 := by omega
          obtain ⟨pv, hcut, hpb, hpq⟩ := hx.cut p n (by omega)
          rw [← hzs] at hpb
          have HPB : Hid (∀ W, Kept [] w W → BytesAt W pv zs) := fun W hk => hpb.kept' hk (by simp)
          obtain ⟨m, hm⟩ : ∃ m, p + n = m := ⟨_, rfl⟩
          rw [hm] at hcut HZT HF'
          have HC : Hid (∀ W, (Instr.slice 24 (.slice ao xs.length cap) (some (.int .i64 p)) (some (.int .i64 (m : Int))) none).run Tryd.prog W = .ok pv W) := hcut
          have r3 : (p : Int) + (n : Int) = (m : Int) := by omega
          have hmx : m ≤ xs.length := by omega
          clear hpb hpq hcut hzs hm
          go_wp2_with (first
            | (refine wpList_cut rfl (.tmp 57) (.tmp 58) (.tmp 61) rfl (.slice ao xs.length cap) rfl p (m : Int) rfl rfl pv HC.out ?_)
            | (go_at_call 17; refine (Lend_any pv zs _ (HPB.out _ HE.out.kept) hsn).mono ?_; rintro e w4 ⟨g, gcap, rfl, hL4, hk4⟩
               have HL4 : Hid (Lent w4 wr.heap.size g gcap zs) := hL4
               have HE4 : Hid (SEnv w w4 w.heap.size (w1.heap.size + 1) (w.heap.size + 1) w1.heap.size bx u6 (xs.take p) (besL i) (besL i)) := HE.out.next hk4 (by simp)
               have HG4 : Hid (wr.heap.size ≤ g) := hL4.room.2.2.1
               have HW4 := WriteX_any w4 (w.heap.size + 1) (xs.take p) _ zs (HV.out w4 HE4.out.kept) HE4.out.hh hL4.bytes HZO.out (fun q hq _ => apart_new (Nat.lt_of_lt_of_le HE.out.hh.lt HG4.out) q hq) (by omega) (by rw [List.length_take]; omega)
               rw [hzl]
               rw [hzl] at HW4
               clear hL4 hk4)
            | (go_at_call 9; first
               | (refine HW4.mono ?_; rintro e w5 ⟨rfl, hH5, hk5⟩
                  rw [HZT.out] at hH5
                  have HE5 : Hid (SEnv w w5 w.heap.size (w1.heap.size + 1) (w.heap.size + 1) w1.heap.size bx u6 (xs.take m) (besL i) (besL i)) := HE4.out.write hk5 hH5 (Nat.le_succ _) (Nat.succ_ne_self _) (Nat.ne_of_lt hho) (Nat.lt_trans hho hoB)
                  have HL5 : Hid (Lent w5 wr.heap.size g gcap zs) := HL4.out.kept hk5 (by simpa using Nat.ne_of_gt (Nat.lt_of_lt_of_le HE.out.hh.lt HG4.out))
                  obtain ⟨d0, d2⟩ := HE5.out.cell HBX.out
                  have HI5 := Intact_any HL5.out (HPB.out w5 HE5.out.kept) hsn
                  rw [hzl] at HI5
                  clear hH5 hk5 HW4))
            | (refine wpList_cut rfl (.tmp 69) (.tmp 70) (.tmp 73) rfl (.slice ao xs.length cap) rfl p (m : Int) rfl rfl pv HC.out ?_)
            | (go_at_call 18; refine HI5.mono ?_; rintro e w6 ⟨rfl, hw6⟩; subst w6))
          obtain ⟨cur, hcur, hcl⟩ := HL5.out.row
          have HC5 : Hid (w5.heap[g]? = some (.cells cur 5 (0, 0))) := hcur
          have hgn : n ≤ cur.size := by omega
          clear hcur hcl HI5
          have HGS : Hid (∀ x ∈ [g], w.heap.size ≤ x ∧ x ≠ w.heap.size ∧ x ≠ w.heap.size + 1 ∧ x ≠ w1.heap.size ∧ u6.ownBlock ≠ some x) := by
            intro x hx
            obtain rfl : x = g := by simpa using hx
            have h1 := HE.out.hh.lt
            have h2 := HE.out.ho.lt
            have h3 := HG4.out
            exact ⟨by omega, by omega, by omega, by omega, fun h => by have := (World.ownsRow.lt HE.out.own x h).2; omega⟩
          clear HL5 HL4 HE4 HG4 HE d0 d2
          go_loopw [10] (fun s10 wq => ∃ k : Nat, k ≤ n ∧ s10 = .int .i64 k ∧ Hid (∃ cur, wq.heap[g]? = some (.cells cur 5 (0, 0)) ∧ n ≤ cur.size) ∧ Hid (Kept [g] w5 wq)) (fun s10 _ => n - (intOf s10).toNat)
          case atStart => exact ⟨0, Nat.zero_le _, rfl, ⟨cur, HC5.out, hgn⟩, Kept.refl _ _⟩
          case round =>
            clear HC5 hgn
            obtain ⟨k, hk, rfl, HC6, HK6⟩ := hrel
            by_cases hkn : k < n
            · obtain ⟨cur6, hcur6, hcl6⟩ := HC6.out
              have ck : ∃ u, wr.cell? ⟨g, k, none⟩ = some u := by
                rw [cell_of_row _ _ _ _ _ _ hcur6]
                exact ⟨_, Array.getElem?_eq_getElem (by omega)⟩
              obtain ⟨u', ck⟩ := ck
              have fk := frozen_of_row wr g k _ _ hcur6
              have HC7 : Hid (∀ x, ∃ cur, (wr.setCell ⟨g, k, none⟩ x).heap[g]? = some (.cells cur 5 (0, 0)) ∧ n ≤ cur.size) := fun x => ⟨_, heap_setCell_same _ _ _ _ _ _ hcur6, by simpa using hcl6⟩
              clear hcur6 hcl6
              go_wp2
              go_roundw
              case rel => exact ⟨k + 1, by omega, by go_num, HC7.out _, HK6.out.setCell (Or.inl (by simp)) _⟩
              case measure => simp [intOf]; omega
            · obtain rfl : k = n := by omega
              have HE6 : Hid (SEnv w wr w.heap.size (w1.heap.size + 1) (w.heap.size + 1) w1.heap.size bx u6 (xs.take m) (besL i) (besL i)) := HE5.out.next HK6.out HGS.out
              clear HC6 HK6 HGS
              have HA6 : Hid (SEnv w (wr.alloc (.cells #[.int .u8 1, .int .u8 ((i : Int) % 256)] 5)) w.heap.size (w1.heap.size + 1) (w.heap.size + 1) w1.heap.size bx u6 (xs.take m) (besL i) (besL i)) := HE6.out.next ((Kept.refl [] wr).alloc _) (by simp)
              have HW6 := WriteX_any (wr.alloc (.cells #[.int .u8 1, .int .u8 ((i : Int) % 256)] 5)) w1.heap.size (besL i) (.slice (some ⟨wr.heap.size, 0, none⟩) 2 2) [1, (i : Int) % 256] (HV.out _ HA6.out.kept) HA6.out.ho (row_bytes_any (ys := [1, (i : Int) % 256]) (heap_alloc_new wr _)) (by intro u hu; simp at hu; omega) (fun q hq _ => apart_new HE6.out.ho.lt q hq) (by simp) (by rw [besL_len]; omega)
              rw [← besL_succ] at HW6
              obtain ⟨i0, hi0, hz0, hz1, hz2⟩ := info_parts Tryd.info_u8
              have hbl := besL_len i
              have HX0 := hx
              go_wp2_with (first
                | (go_at_call 9; refine HW6.mono ?_; rintro e w7 ⟨rfl, hH7, hk7⟩
                   have HE7 : Hid (SEnv w w7 w.heap.size (w1.heap.size + 1) (w.heap.size + 1) w1.heap.size bx u6 (xs.take m) (besL (i + 1)) (besL i)) := HA6.out.write2 hk7 hH7 (by omega) (by omega) (by omega) (by omega)
                   have HA7 : Hid (SEnv w (w7.alloc (.cells #[.int .u8 1, .int .u8 ((i : Int) % 256)] 5)) w.heap.size (w1.heap.size + 1) (w.heap.size + 1) w1.heap.size bx u6 (xs.take m) (besL (i + 1)) (besL i)) := HE7.out.next ((Kept.refl [] w7).alloc _) (by simp)
                   have hB7 : w1.heap.size + 1 ≤ (w7.alloc (.cells #[.int .u8 1, .int .u8 ((i : Int) % 256)] 5)).heap.size := HA7.out.ho.lt
                   have ho7 : (w7.alloc (.cells #[.int .u8 1, .int .u8 ((i : Int) % 256)] 5)).ownsRow (w1.heap.size + 1) 5 1 u6 (besL i).length ((besL i).map (Value.int .u8)) := HA7.out.own
                   clear hH7 hk7 HW6)
                | (at_builtin; refine wpList_append_own_at _ rfl (.tmp 90) (.tmp 93) 24 rfl (w1.heap.size + 1) 5 i0 (.int .u8 0) 1 1 Tryd.underlying24 hi0 hz0 hz1 hz2 rfl (by decide) u6 (besL i).length ((besL i).map (Value.int .u8)) rfl ho7 ⟨w7.heap.size, 0, none⟩ 2 2 [.int .u8 1, .int .u8 ((i : Int) % 256)] rfl rfl (two_new w7 _ _) (by simp [Value.oneCell']) (by unfold maxLen; omega) (by omega) hB7 ?_; intro v' w8 ho8 hgr8 hnil8 hat8
                   have hO8 : OwnB w8 (w1.heap.size + 1) v' (besL (i + 1)) := by
                     unfold OwnB
                     rw [besL_succ, List.length_append, List.map_append]
                     exact ho8
                   have HE8 : Hid (SEnv w w8 w.heap.size (w1.heap.size + 1) (w.heap.size + 1) w1.heap.size bx v' (xs.take m) (besL (i + 1)) (besL (i + 1))) := HA7.out.append hgr8 hO8 (by omega) (by omega) (by omega) (by omega)
                   clear ho8 hgr8 hnil8 hat8 hO8 ho7 hB7))
              obtain ⟨pw, hpw, hpwb⟩ := hx.cutTo m hmx
              have HSP : Hid (∀ W, Kept [] w8 W → Calls Tryd.prog 12 #[pw] W fun e w' => e = .returned (.agg (idC (digL (xs.take m)))) ∧ Kept [] w8 w') := fun W hW =>
                (Sum_any W pw (xs.take m) (HV.out W (HE8.out.kept.then hW)) (hpwb.kept' (HE8.out.kept.then hW) (by simp)) (octs_take hox m) (by rw [List.length_take]; omega)).mono fun e w' h => ⟨h.1, hW.then h.2⟩
              have HSM : Hid (∀ W, Kept [] w8 W → Calls Tryd.prog 13 #[.pointer (some ⟨w.heap.size + 1, 0, none⟩)] W fun e w' => e = .returned (.agg (idC (digL (xs.take m)))) ∧ Kept [] w8 w') := fun W hW =>
                (SumX_any W (w.heap.size + 1) (xs.take m) (HV.out W (HE8.out.kept.then hW)) (HE8.out.hh.kept hW (by simp))).mono fun e w' h => ⟨h.1, hW.then h.2⟩
              have HC0 : Hid (∀ W, Kept [] w8 W → W.cell? ⟨w.heap.size, 0, none⟩ = some (.slice ao xs.length cap)) := fun W hW => hW.cell (HE8.out.cell HBX.out).1 (by simp)
              have heq : ∀ W, (Op.equalIn 10000 29 (.agg (idC (digL (xs.take m)))) (.agg (idC (digL (xs.take m))))).run Tryd.prog W = .ok true W := fun W => by rw [idEq _ _ W (digL_len _) (digL_len _), decide_eq_true rfl]
              obtain ⟨t3, ht3⟩ : ∃ t3, Int.tmod (i : Int) 3 = t3 := ⟨_, rfl⟩
              clear hpwb
              by_cases hz : t3 = 0
              · have hzb : (t3 == 0) = true := by rw [hz]; rfl
                clear hz
                refine region_quiet (Kept [] w8) (by kernel_rfl) (by kernel_rfl) (Kept.refl [] w8).drew ?_
                refine quiet_move (by rfl) (.tmp 7) rfl (.int .i64 i) rfl ?_
                simp only [Act.put, List.setIfInBounds_toArray, List.set_cons_zero, List.set_cons_succ]
                refine quiet_val (by rfl) (.int .i64 t3) (fun W => by go_simp) ?_
                simp only [Act.put, List.setIfInBounds_toArray, List.set_cons_zero, List.set_cons_succ]
                refine quiet_val (by rfl) (.bool true) (fun W => by go_simp) ?_
                simp only [Act.put, List.setIfInBounds_toArray, List.set_cons_zero, List.set_cons_succ]
                refine quiet_move (by rfl) (.tmp 100) rfl (.bool true) rfl ?_
                simp only [Act.put, List.setIfInBounds_toArray, List.set_cons_zero, List.set_cons_succ]
                with_reducible refine wpQuiet_step ?_
                intro K hK
                rw [if_pos (by go_simp)]
                refine move_at (.tmp 3) rfl (.pointer (some ⟨w.heap.size + 1, 0, none⟩)) rfl (hK _ ?_)
                clear hK K
                simp only [Act.put, List.setIfInBounds_toArray, List.set_cons_zero, List.set_cons_succ]
                with_reducible refine wpQuiet_step ?_
                intro K hK
                rw [if_pos (by go_simp)]
                refine call_at 13 #[.pointer (some ⟨w.heap.size + 1, 0, none⟩)] (.agg (idC (digL (xs.take m)))) (fun W => by go_simp) (fun W hW => HSM.out W hW) (hK _ ?_)
                clear hK K
                simp only [Act.put, List.setIfInBounds_toArray, List.set_cons_zero, List.set_cons_succ]
                with_reducible refine wpQuiet_step ?_
                intro K hK
                rw [if_pos (by go_simp)]
                refine val_at (.pointer (some ⟨w.heap.size, 0, none⟩)) (fun W => by go_simp) (hK _ ?_)
                clear hK K
                simp only [Act.put, List.setIfInBounds_toArray, List.set_cons_zero, List.set_cons_succ]
                with_reducible refine wpQuiet_step ?_
                intro K hK
                rw [if_pos (by go_simp)]
                refine valC_at (.slice ao xs.length cap) (fun W hW => by have c0 := HC0.out W hW; go_simp) (hK _ ?_)
                clear hK K
                simp only [Act.put, List.setIfInBounds_toArray, List.set_cons_zero, List.set_cons_succ]
                with_reducible refine wpQuiet_step ?_
                intro K hK
                rw [if_pos (by go_simp)]
                refine move_at (.tmp 5) rfl (.int .i64 m) rfl (hK _ ?_)
                clear hK K
                simp only [Act.put, List.setIfInBounds_toArray, List.set_cons_zero, List.set_cons_succ]
                with_reducible refine wpQuiet_step ?_
                intro K hK
                rw [if_pos (by go_simp)]
                refine val_at pw (fun W => by have h := hpw W; go_simp) (hK _ ?_)
                clear hK K
                simp only [Act.put, List.setIfInBounds_toArray, List.set_cons_zero, List.set_cons_succ]
                with_reducible refine wpQuiet_step ?_
                intro K hK
                rw [if_pos (by go_simp)]
                refine call_at 12 #[pw] (.agg (idC (digL (xs.take m)))) (fun W => by go_simp) (fun W hW => HSP.out W hW) (hK _ ?_)
                clear hK K
                simp only [Act.put, List.setIfInBounds_toArray, List.set_cons_zero, List.set_cons_succ]
                with_reducible refine wpQuiet_step ?_
                intro K hK
                rw [if_pos (by go_simp)]
                refine neq_at (.tmp 103) (.tmp 108) _ rfl _ _ rfl rfl true heq (hK _ ?_)
                clear hK K
                simp only [Act.put, List.setIfInBounds_toArray, List.set_cons_zero, List.set_cons_succ]
                refine quiet_val (by rfl) (.bool false) (fun W => by go_simp) ?_
                simp only [Act.put, List.setIfInBounds_toArray, List.set_cons_zero, List.set_cons_succ]
                refine wpQuiet_nil fun w9 hk9 => ?_
                have HE9 : Hid (SEnv w w9 w.heap.size (w1.heap.size + 1) (w.heap.size + 1) w1.heap.size bx v' (xs.take m) (besL (i + 1)) (besL (i + 1))) := HE8.out.next hk9 (by simp)
                clear hk9
                go_wp2
                go_roundw
                case rel => exact ⟨i + 1, m, by go_num, rfl, by omega, by omega, hmx, HF', HE9⟩
                case measure => simp [intOf]; omega
              · have hzb : (t3 == 0) = false := by rw [beq_eq_false_iff_ne]; exact hz
                clear hz
                refine region_quiet (Kept [] w8) (by kernel_rfl) (by kernel_rfl) (Kept.refl [] w8).drew ?_
                refine quiet_move (by rfl) (.tmp 7) rfl (.int .i64 i) rfl ?_
                simp only [Act.put, List.setIfInBounds_toArray, List.set_cons_zero, List.set_cons_succ]
                refine quiet_val (by rfl) (.int .i64 t3) (fun W => by go_simp) ?_
                simp only [Act.put, List.setIfInBounds_toArray, List.set_cons_zero, List.set_cons_succ]
                refine quiet_val (by rfl) (.bool false) (fun W => by go_simp) ?_
                simp only [Act.put, List.setIfInBounds_toArray, List.set_cons_zero, List.set_cons_succ]
                refine quiet_move (by rfl) (.tmp 100) rfl (.bool false) rfl ?_
                simp only [Act.put, List.setIfInBounds_toArray, List.set_cons_zero, List.set_cons_succ]
                with_reducible refine wpQuiet_step ?_
                intro K hK
                rw [if_neg (by go_simp)]
                refine hK _ ?_
                clear hK K
                simp only [Act.put, List.setIfInBounds_toArray, List.set_cons_zero, List.set_cons_succ]
                with_reducible refine wpQuiet_step ?_
                intro K hK
                rw [if_neg (by go_simp)]
                refine hK _ ?_
                clear hK K
                simp only [Act.put, List.setIfInBounds_toArray, List.set_cons_zero, List.set_cons_succ]
                with_reducible refine wpQuiet_step ?_
                intro K hK
                rw [if_neg (by go_simp)]
                refine hK _ ?_
                clear hK K
                simp only [Act.put, List.setIfInBounds_toArray, List.set_cons_zero, List.set_cons_succ]
                with_reducible refine wpQuiet_step ?_
                intro K hK
                rw [if_neg (by go_simp)]
                refine hK _ ?_
                clear hK K
                simp only [Act.put, List.setIfInBounds_toArray, List.set_cons_zero, List.set_cons_succ]
                with_reducible refine wpQuiet_step ?_
                intro K hK
                rw [if_neg (by go_simp)]
                refine hK _ ?_
                clear hK K
                simp only [Act.put, List.setIfInBounds_toArray, List.set_cons_zero, List.set_cons_succ]
                with_reducible refine wpQuiet_step ?_
                intro K hK
                rw [if_neg (by go_simp)]
                refine hK _ ?_
                clear hK K
                simp only [Act.put, List.setIfInBounds_toArray, List.set_cons_zero, List.set_cons_succ]
                with_reducible refine wpQuiet_step ?_
                intro K hK
                rw [if_neg (by go_simp)]
                refine hK _ ?_
                clear hK K
                simp only [Act.put, List.setIfInBounds_toArray, List.set_cons_zero, List.set_cons_succ]
                with_reducible refine wpQuiet_step ?_
                intro K hK
                rw [if_neg (by go_simp)]
                refine hK _ ?_
                clear hK K
                simp only [Act.put, List.setIfInBounds_toArray, List.set_cons_zero, List.set_cons_succ]
                refine quiet_val (by rfl) (.bool false) (fun W => by go_simp) ?_
                simp only [Act.put, List.setIfInBounds_toArray, List.set_cons_zero, List.set_cons_succ]
                refine wpQuiet_nil fun w9 hk9 => ?_
                have HE9 : Hid (SEnv w w9 w.heap.size (w1.heap.size + 1) (w.heap.size + 1) w1.heap.size bx v' (xs.take m) (besL (i + 1)) (besL (i + 1))) := HE8.out.next hk9 (by simp)
                clear hk9
                go_wp2
                go_roundw
                case rel => exact ⟨i + 1, m, by go_num, rfl, by omega, by omega, hmx, HF', HE9⟩
                case measure => simp [intOf]; omega
        · clear hA
          obtain ⟨zs, hzs⟩ : ∃ zs, zs = (xs.drop p).take n := ⟨_, rfl⟩
          have hzl : zs.length = n := by rw [hzs, List.length_take, List.length_drop]; omega
          have HZO : Hid (Octs zs) := by rw [hzs]; exact octs_take (octs_drop hox p) n
          have HZT : Hid (xs.take p ++ zs = xs.take (p + n)) := by
            show _ = _
            rw [hzs, List.take_add]
          have hsn : zs.length ≤ 140737488351232 := by omega
          obtain ⟨pv, hcut, hpb, hpq⟩ := hx.cut p n (by omega)
          rw [← hzs] at hpb
          have HPB : Hid (∀ W, Kept [] w W → BytesAt W pv zs) := fun W hk => hpb.kept' hk (by simp)
          obtain ⟨m, hm⟩ : ∃ m, p + n = m := ⟨_, rfl⟩
          rw [hm] at hcut HZT HF'
          have HC : Hid (∀ W, (Instr.slice 24 (.slice ao xs.length cap) (some (.int .i64 p)) (some (.int .i64 (m : Int))) none).run Tryd.prog W = .ok pv W) := hcut
          have r3 : (p : Int) + (n : Int) = (m : Int) := by omega
          have hmx : m ≤ xs.length := by omega
          clear hpb hpq hcut hzs hm
          go_wp2_with (first
            | (refine wpList_cut rfl (.tmp 57) (.tmp 58) (.tmp 61) rfl (.slice ao xs.length cap) rfl p (m : Int) rfl rfl pv HC.out ?_)
            | (go_at_call 17; refine (Lend_any pv zs _ (HPB.out _ HE.out.kept) hsn).mono ?_; rintro e w4 ⟨g, gcap, rfl, hL4, hk4⟩
               have HL4 : Hid (Lent w4 wr.heap.size g gcap zs) := hL4
               have HE4 : Hid (SEnv w w4 w.heap.size (w1.heap.size + 1) (w.heap.size + 1) w1.heap.size bx u6 (xs.take p) (besL i) (besL i)) := HE.out.next hk4 (by simp)
               have HG4 : Hid (wr.heap.size ≤ g) := hL4.room.2.2.1
               have HW4 := WriteX_any w4 (w.heap.size + 1) (xs.take p) _ zs (HV.out w4 HE4.out.kept) HE4.out.hh hL4.bytes HZO.out (fun q hq _ => apart_new (Nat.lt_of_lt_of_le HE.out.hh.lt HG4.out) q hq) (by omega) (by rw [List.length_take]; omega)
               rw [hzl]
               rw [hzl] at HW4
               clear hL4 hk4)
            | (go_at_call 9; first
               | (refine HW4.mono ?_; rintro e w5 ⟨rfl, hH5, hk5⟩
                  rw [HZT.out] at hH5
                  have HE5 : Hid (SEnv w w5 w.heap.size (w1.heap.size + 1) (w.heap.size + 1) w1.heap.size bx u6 (xs.take m) (besL i) (besL i)) := HE4.out.write hk5 hH5 (Nat.le_succ _) (Nat.succ_ne_self _) (Nat.ne_of_lt hho) (Nat.lt_trans hho hoB)
                  have HL5 : Hid (Lent w5 wr.heap.size g gcap zs) := HL4.out.kept hk5 (by simpa using Nat.ne_of_gt (Nat.lt_of_lt_of_le HE.out.hh.lt HG4.out))
                  obtain ⟨d0, d2⟩ := HE5.out.cell HBX.out
                  have HI5 := Intact_any HL5.out (HPB.out w5 HE5.out.kept) hsn
                  rw [hzl] at HI5
                  clear hH5 hk5 HW4))
            | (refine wpList_cut rfl (.tmp 69) (.tmp 70) (.tmp 73) rfl (.slice ao xs.length cap) rfl p (m : Int) rfl rfl pv HC.out ?_)
            | (go_at_call 18; refine HI5.mono ?_; rintro e w6 ⟨rfl, hw6⟩; subst w6))
          obtain ⟨cur, hcur, hcl⟩ := HL5.out.row
          have HC5 : Hid (w5.heap[g]? = some (.cells cur 5 (0, 0))) := hcur
          have hgn : n ≤ cur.size := by omega
          clear hcur hcl HI5
          have HGS : Hid (∀ x ∈ [g], w.heap.size ≤ x ∧ x ≠ w.heap.size ∧ x ≠ w.heap.size + 1 ∧ x ≠ w1.heap.size ∧ u6.ownBlock ≠ some x) := by
            intro x hx
            obtain rfl : x = g := by simpa using hx
            have h1 := HE.out.hh.lt
            have h2 := HE.out.ho.lt
            have h3 := HG4.out
            exact ⟨by omega, by omega, by omega, by omega, fun h => by have := (World.ownsRow.lt HE.out.own x h).2; omega⟩
          clear HL5 HL4 HE4 HG4 HE d0 d2
          go_loopw [10] (fun s10 wq => ∃ k : Nat, k ≤ n ∧ s10 = .int .i64 k ∧ Hid (∃ cur, wq.heap[g]? = some (.cells cur 5 (0, 0)) ∧ n ≤ cur.size) ∧ Hid (Kept [g] w5 wq)) (fun s10 _ => n - (intOf s10).toNat)
          case atStart => exact ⟨0, Nat.zero_le _, rfl, ⟨cur, HC5.out, hgn⟩, Kept.refl _ _⟩
          case round =>
            clear HC5 hgn
            obtain ⟨k, hk, rfl, HC6, HK6⟩ := hrel
            by_cases hkn : k < n
            · obtain ⟨cur6, hcur6, hcl6⟩ := HC6.out
              have ck : ∃ u, wr.cell? ⟨g, k, none⟩ = some u := by
                rw [cell_of_row _ _ _ _ _ _ hcur6]
                exact ⟨_, Array.getElem?_eq_getElem (by omega)⟩
              obtain ⟨u', ck⟩ := ck
              have fk := frozen_of_row wr g k _ _ hcur6
              have HC7 : Hid (∀ x, ∃ cur, (wr.setCell ⟨g, k, none⟩ x).heap[g]? = some (.cells cur 5 (0, 0)) ∧ n ≤ cur.size) := fun x => ⟨_, heap_setCell_same _ _ _ _ _ _ hcur6, by simpa using hcl6⟩
              clear hcur6 hcl6
              go_wp2
              go_roundw
              case rel => exact ⟨k + 1, by omega, by go_num, HC7.out _, HK6.out.setCell (Or.inl (by simp)) _⟩
              case measure => simp [intOf]; omega
            · obtain rfl : k = n := by omega
              have HE6 : Hid (SEnv w wr w.heap.size (w1.heap.size + 1) (w.heap.size + 1) w1.heap.size bx u6 (xs.take m) (besL i) (besL i)) := HE5.out.next HK6.out HGS.out
              clear HC6 HK6 HGS
              have HA6 : Hid (SEnv w (wr.alloc (.cells #[.int .u8 1, .int .u8 ((i : Int) % 256)] 5)) w.heap.size (w1.heap.size + 1) (w.heap.size + 1) w1.heap.size bx u6 (xs.take m) (besL i) (besL i)) := HE6.out.next ((Kept.refl [] wr).alloc _) (by simp)
              have HW6 := WriteX_any (wr.alloc (.cells #[.int .u8 1, .int .u8 ((i : Int) % 256)] 5)) w1.heap.size (besL i) (.slice (some ⟨wr.heap.size, 0, none⟩) 2 2) [1, (i : Int) % 256] (HV.out _ HA6.out.kept) HA6.out.ho (row_bytes_any (ys := [1, (i : Int) % 256]) (heap_alloc_new wr _)) (by intro u hu; simp at hu; omega) (fun q hq _ => apart_new HE6.out.ho.lt q hq) (by simp) (by rw [besL_len]; omega)
              rw [← besL_succ] at HW6
              obtain ⟨i0, hi0, hz0, hz1, hz2⟩ := info_parts Tryd.info_u8
              have hbl := besL_len i
              have HX0 := hx
              go_wp2_with (first
                | (go_at_call 9; refine HW6.mono ?_; rintro e w7 ⟨rfl, hH7, hk7⟩
                   have HE7 : Hid (SEnv w w7 w.heap.size (w1.heap.size + 1) (w.heap.size + 1) w1.heap.size bx u6 (xs.take m) (besL (i + 1)) (besL i)) := HA6.out.write2 hk7 hH7 (by omega) (by omega) (by omega) (by omega)
                   have HA7 : Hid (SEnv w (w7.alloc (.cells #[.int .u8 1, .int .u8 ((i : Int) % 256)] 5)) w.heap.size (w1.heap.size + 1) (w.heap.size + 1) w1.heap.size bx u6 (xs.take m) (besL (i + 1)) (besL i)) := HE7.out.next ((Kept.refl [] w7).alloc _) (by simp)
                   have hB7 : w1.heap.size + 1 ≤ (w7.alloc (.cells #[.int .u8 1, .int .u8 ((i : Int) % 256)] 5)).heap.size := HA7.out.ho.lt
                   have ho7 : (w7.alloc (.cells #[.int .u8 1, .int .u8 ((i : Int) % 256)] 5)).ownsRow (w1.heap.size + 1) 5 1 u6 (besL i).length ((besL i).map (Value.int .u8)) := HA7.out.own
                   clear hH7 hk7 HW6)
                | (at_builtin; refine wpList_append_own_at _ rfl (.tmp 90) (.tmp 93) 24 rfl (w1.heap.size + 1) 5 i0 (.int .u8 0) 1 1 Tryd.underlying24 hi0 hz0 hz1 hz2 rfl (by decide) u6 (besL i).length ((besL i).map (Value.int .u8)) rfl ho7 ⟨w7.heap.size, 0, none⟩ 2 2 [.int .u8 1, .int .u8 ((i : Int) % 256)] rfl rfl (two_new w7 _ _) (by simp [Value.oneCell']) (by unfold maxLen; omega) (by omega) hB7 ?_; intro v' w8 ho8 hgr8 hnil8 hat8
                   have hO8 : OwnB w8 (w1.heap.size + 1) v' (besL (i + 1)) := by
                     unfold OwnB
                     rw [besL_succ, List.length_append, List.map_append]
                     exact ho8
                   have HE8 : Hid (SEnv w w8 w.heap.size (w1.heap.size + 1) (w.heap.size + 1) w1.heap.size bx v' (xs.take m) (besL (i + 1)) (besL (i + 1))) := HA7.out.append hgr8 hO8 (by omega) (by omega) (by omega) (by omega)
                   clear ho8 hgr8 hnil8 hat8 hO8 ho7 hB7))
              obtain ⟨pw, hpw, hpwb⟩ := hx.cutTo m hmx
              have HSP : Hid (∀ W, Kept [] w8 W → Calls Tryd.prog 12 #[pw] W fun e w' => e = .returned (.agg (idC (digL (xs.take m)))) ∧ Kept [] w8 w') := fun W hW =>
                (Sum_any W pw (xs.take m) (HV.out W (HE8.out.kept.then hW)) (hpwb.kept' (HE8.out.kept.then hW) (by simp)) (octs_take hox m) (by rw [List.length_take]; omega)).mono fun e w' h => ⟨h.1, hW.then h.2⟩
              have HSM : Hid (∀ W, Kept [] w8 W → Calls Tryd.prog 13 #[.pointer (some ⟨w.heap.size + 1, 0, none⟩)] W fun e w' => e = .returned (.agg (idC (digL (xs.take m)))) ∧ Kept [] w8 w') := fun W hW =>
                (SumX_any W (w.heap.size + 1) (xs.take m) (HV.out W (HE8.out.kept.then hW)) (HE8.out.hh.kept hW (by simp))).mono fun e w' h => ⟨h.1, hW.then h.2⟩
              have HC0 : Hid (∀ W, Kept [] w8 W → W.cell? ⟨w.heap.size, 0, none⟩ = some (.slice ao xs.length cap)) := fun W hW => hW.cell (HE8.out.cell HBX.out).1 (by simp)
              have heq : ∀ W, (Op.equalIn 10000 29 (.agg (idC (digL (xs.take m)))) (.agg (idC (digL (xs.take m))))).run Tryd.prog W = .ok true W := fun W => by rw [idEq _ _ W (digL_len _) (digL_len _), decide_eq_true rfl]
              obtain ⟨t3, ht3⟩ : ∃ t3, Int.tmod (i : Int) 3 = t3 := ⟨_, rfl⟩
              clear hpwb
              by_cases hz : t3 = 0
              · have hzb : (t3 == 0) = true := by rw [hz]; rfl
                clear hz
                refine region_quiet (Kept [] w8) (by kernel_rfl) (by kernel_rfl) (Kept.refl [] w8).drew ?_
                refine quiet_move (by rfl) (.tmp 7) rfl (.int .i64 i) rfl ?_
                simp only [Act.put, List.setIfInBounds_toArray, List.set_cons_zero, List.set_cons_succ]
                refine quiet_val (by rfl) (.int .i64 t3) (fun W => by go_simp) ?_
                simp only [Act.put, List.setIfInBounds_toArray, List.set_cons_zero, List.set_cons_succ]
                refine quiet_val (by rfl) (.bool true) (fun W => by go_simp) ?_
                simp only [Act.put, List.setIfInBounds_toArray, List.set_cons_zero, List.set_cons_succ]
                refine quiet_move (by rfl) (.tmp 100) rfl (.bool true) rfl ?_
                simp only [Act.put, List.setIfInBounds_toArray, List.set_cons_zero, List.set_cons_succ]
                with_reducible refine wpQuiet_step ?_
                intro K hK
                rw [if_pos (by go_simp)]
                refine move_at (.tmp 3) rfl (.pointer (some ⟨w.heap.size + 1, 0, none⟩)) rfl (hK _ ?_)
                clear hK K
                simp only [Act.put, List.setIfInBounds_toArray, List.set_cons_zero, List.set_cons_succ]
                with_reducible refine wpQuiet_step ?_
                intro K hK
                rw [if_pos (by go_simp)]
                refine call_at 13 #[.pointer (some ⟨w.heap.size + 1, 0, none⟩)] (.agg (idC (digL (xs.take m)))) (fun W => by go_simp) (fun W hW => HSM.out W hW) (hK _ ?_)
                clear hK K
                simp only [Act.put, List.setIfInBounds_toArray, List.set_cons_zero, List.set_cons_succ]
                with_reducible refine wpQuiet_step ?_
                intro K hK
                rw [if_pos (by go_simp)]
                refine val_at (.pointer (some ⟨w.heap.size, 0, none⟩)) (fun W => by go_simp) (hK _ ?_)
                clear hK K
                simp only [Act.put, List.setIfInBounds_toArray, List.set_cons_zero, List.set_cons_succ]
                with_reducible refine wpQuiet_step ?_
                intro K hK
                rw [if_pos (by go_simp)]
                refine valC_at (.slice ao xs.length cap) (fun W hW => by have c0 := HC0.out W hW; go_simp) (hK _ ?_)
                clear hK K
                simp only [Act.put, List.setIfInBounds_toArray, List.set_cons_zero, List.set_cons_succ]
                with_reducible refine wpQuiet_step ?_
                intro K hK
                rw [if_pos (by go_simp)]
                refine move_at (.tmp 5) rfl (.int .i64 m) rfl (hK _ ?_)
                clear hK K
                simp only [Act.put, List.setIfInBounds_toArray, List.set_cons_zero, List.set_cons_succ]
                with_reducible refine wpQuiet_step ?_
                intro K hK
                rw [if_pos (by go_simp)]
                refine val_at pw (fun W => by have h := hpw W; go_simp) (hK _ ?_)
                clear hK K
                simp only [Act.put, List.setIfInBounds_toArray, List.set_cons_zero, List.set_cons_succ]
                with_reducible refine wpQuiet_step ?_
                intro K hK
                rw [if_pos (by go_simp)]
                refine call_at 12 #[pw] (.agg (idC (digL (xs.take m)))) (fun W => by go_simp) (fun W hW => HSP.out W hW) (hK _ ?_)
                clear hK K
                simp only [Act.put, List.setIfInBounds_toArray, List.set_cons_zero, List.set_cons_succ]
                with_reducible refine wpQuiet_step ?_
                intro K hK
                rw [if_pos (by go_simp)]
                refine neq_at (.tmp 103) (.tmp 108) _ rfl _ _ rfl rfl true heq (hK _ ?_)
                clear hK K
                simp only [Act.put, List.setIfInBounds_toArray, List.set_cons_zero, List.set_cons_succ]
                refine quiet_val (by rfl) (.bool false) (fun W => by go_simp) ?_
                simp only [Act.put, List.setIfInBounds_toArray, List.set_cons_zero, List.set_cons_succ]
                refine wpQuiet_nil fun w9 hk9 => ?_
                have HE9 : Hid (SEnv w w9 w.heap.size (w1.heap.size + 1) (w.heap.size + 1) w1.heap.size bx v' (xs.take m) (besL (i + 1)) (besL (i + 1))) := HE8.out.next hk9 (by simp)
                clear hk9
                go_wp2
                go_roundw
                case rel => exact ⟨i + 1, m, by go_num, rfl, by omega, by omega, hmx, HF', HE9⟩
                case measure => simp [intOf]; omega
              · have hzb : (t3 == 0) = false := by rw [beq_eq_false_iff_ne]; exact hz
                clear hz
                refine region_quiet (Kept [] w8) (by kernel_rfl) (by kernel_rfl) (Kept.refl [] w8).drew ?_
                refine quiet_move (by rfl) (.tmp 7) rfl (.int .i64 i) rfl ?_
                simp only [Act.put, List.setIfInBounds_toArray, List.set_cons_zero, List.set_cons_succ]
                refine quiet_val (by rfl) (.int .i64 t3) (fun W => by go_simp) ?_
                simp only [Act.put, List.setIfInBounds_toArray, List.set_cons_zero, List.set_cons_succ]
                refine quiet_val (by rfl) (.bool false) (fun W => by go_simp) ?_
                simp only [Act.put, List.setIfInBounds_toArray, List.set_cons_zero, List.set_cons_succ]
                refine quiet_move (by rfl) (.tmp 100) rfl (.bool false) rfl ?_
                simp only [Act.put, List.setIfInBounds_toArray, List.set_cons_zero, List.set_cons_succ]
                with_reducible refine wpQuiet_step ?_
                intro K hK
                rw [if_neg (by go_simp)]
                refine hK _ ?_
                clear hK K
                simp only [Act.put, List.setIfInBounds_toArray, List.set_cons_zero, List.set_cons_succ]
                with_reducible refine wpQuiet_step ?_
                intro K hK
                rw [if_neg (by go_simp)]
                refine hK _ ?_
                clear hK K
                simp only [Act.put, List.setIfInBounds_toArray, List.set_cons_zero, List.set_cons_succ]
                with_reducible refine wpQuiet_step ?_
                intro K hK
                rw [if_neg (by go_simp)]
                refine hK _ ?_
                clear hK K
                simp only [Act.put, List.setIfInBounds_toArray, List.set_cons_zero, List.set_cons_succ]
                with_reducible refine wpQuiet_step ?_
                intro K hK
                rw [if_neg (by go_simp)]
                refine hK _ ?_
                clear hK K
                simp only [Act.put, List.setIfInBounds_toArray, List.set_cons_zero, List.set_cons_succ]
                with_reducible refine wpQuiet_step ?_
                intro K hK
                rw [if_neg (by go_simp)]
                refine hK _ ?_
                clear hK K
                simp only [Act.put, List.setIfInBounds_toArray, List.set_cons_zero, List.set_cons_succ]
                with_reducible refine wpQuiet_step ?_
                intro K hK
                rw [if_neg (by go_simp)]
                refine hK _ ?_
                clear hK K
                simp only [Act.put, List.setIfInBounds_toArray, List.set_cons_zero, List.set_cons_succ]
                with_reducible refine wpQuiet_step ?_
                intro K hK
                rw [if_neg (by go_simp)]
                refine hK _ ?_
                clear hK K
                simp only [Act.put, List.setIfInBounds_toArray, List.set_cons_zero, List.set_cons_succ]
                with_reducible refine wpQuiet_step ?_
                intro K hK
                rw [if_neg (by go_simp)]
                refine hK _ ?_
                clear hK K
                simp only [Act.put, List.setIfInBounds_toArray, List.set_cons_zero, List.set_cons_succ]
                refine quiet_val (by rfl) (.bool false) (fun W => by go_simp) ?_
                simp only [Act.put, List.setIfInBounds_toArray, List.set_cons_zero, List.set_cons_succ]
                refine wpQuiet_nil fun w9 hk9 => ?_
                have HE9 : Hid (SEnv w w9 w.heap.size (w1.heap.size + 1) (w.heap.size + 1) w1.heap.size bx v' (xs.take m) (besL (i + 1)) (besL (i + 1))) := HE8.out.next hk9 (by simp)
                clear hk9
                go_wp2
                go_roundw
                case rel => exact ⟨i + 1, m, by go_num, rfl, by omega, by omega, hmx, HF', HE9⟩
                case measure => simp [intOf]; omega
      · have hp' : p = xs.length := HF.out (by omega)
        subst hp'
        rw [List.take_length] at HE
        have HSP : Hid (∀ W, Kept [] wr W → Calls Tryd.prog 12 #[.slice ao xs.length cap] W fun e w' => e = .returned (.agg (idC (digL xs))) ∧ Kept [] wr w') := fun W hW =>
          (Sum_any W _ xs (HV.out W (HE.out.kept.then hW)) (hx.kept' (HE.out.kept.then hW) (by simp)) hox (by omega)).mono fun e w' h => ⟨h.1, hW.then h.2⟩
        have HSM : Hid (∀ W, Kept [] wr W → Calls Tryd.prog 13 #[.pointer (some ⟨w.heap.size + 1, 0, none⟩)] W fun e w' => e = .returned (.agg (idC (digL xs))) ∧ Kept [] wr w') := fun W hW =>
          (SumX_any W (w.heap.size + 1) xs (HV.out W (HE.out.kept.then hW)) (HE.out.hh.kept hW (by simp))).mono fun e w' h => ⟨h.1, hW.then h.2⟩
        have HSO : Hid (∀ W, Kept [] wr W → Calls Tryd.prog 13 #[.pointer (some ⟨w1.heap.size, 0, none⟩)] W fun e w' => e = .returned (.agg (idC (digL (besL i)))) ∧ Kept [] wr w') := fun W hW =>
          (SumX_any W w1.heap.size (besL i) (HV.out W (HE.out.kept.then hW)) (HE.out.ho.kept hW (by simp))).mono fun e w' h => ⟨h.1, hW.then h.2⟩
        have HSB : Hid (∀ W, Kept [] wr W → Calls Tryd.prog 12 #[u6] W fun e w' => e = .returned (.agg (idC (digL (besL i)))) ∧ Kept [] wr w') := fun W hW =>
          (Sum_any W u6 (besL i) (HV.out W (HE.out.kept.then hW)) (HE.out.own.kept hW (by simp)).bytes (besL_octs i) (by rw [besL_len]; omega)).mono fun e w' h => ⟨h.1, hW.then h.2⟩
        have HC0 : Hid (∀ W, Kept [] wr W → W.cell? ⟨w.heap.size, 0, none⟩ = some (.slice ao xs.length cap)) := fun W hW => hW.cell c0 (by simp)
        have heq : ∀ W, (Op.equalIn 10000 29 (.agg (idC (digL xs))) (.agg (idC (digL xs)))).run Tryd.prog W = .ok true W := fun W => by rw [idEq _ _ W (digL_len _) (digL_len _), decide_eq_true rfl]
        have heq2 : ∀ W, (Op.equalIn 10000 29 (.agg (idC (digL (besL i)))) (.agg (idC (digL (besL i))))).run Tryd.prog W = .ok true W := fun W => by rw [idEq _ _ W (digL_len _) (digL_len _), decide_eq_true rfl]
        by_cases hB : i ≤ cs.length
        · have hB2 : ¬ i ≤ 4096 := fun h => hX ⟨hB, h⟩
          clear hA hX
          go_wp2
          refine region_quiet (Kept [] wr) (by kernel_rfl) (by kernel_rfl) (Kept.refl [] wr).drew ?_
          refine quiet_move (by rfl) (.tmp 3) rfl (.pointer (some ⟨w.heap.size + 1, 0, none⟩)) rfl ?_
          simp only [Act.put, List.setIfInBounds_toArray, List.set_cons_zero, List.set_cons_succ]
          refine quiet_call (by rfl) 13 #[.pointer (some ⟨w.heap.size + 1, 0, none⟩)] (.agg (idC (digL xs))) (fun W => by go_simp) (fun W hW => HSM.out W hW) ?_
          simp only [Act.put, List.setIfInBounds_toArray, List.set_cons_zero, List.set_cons_succ]
          refine quiet_val (by rfl) (.pointer (some ⟨w.heap.size, 0, none⟩)) (fun W => by go_simp) ?_
          simp only [Act.put, List.setIfInBounds_toArray, List.set_cons_zero, List.set_cons_succ]
          refine valC (by rfl) (.slice ao xs.length cap) (fun W hW => by have c0 := HC0.out W hW; go_simp) ?_
          simp only [Act.put, List.setIfInBounds_toArray, List.set_cons_zero, List.set_cons_succ]
          refine quiet_call (by rfl) 12 #[.slice ao xs.length cap] (.agg (idC (digL xs))) (fun W => by go_simp) (fun W hW => HSP.out W hW) ?_
          simp only [Act.put, List.setIfInBounds_toArray, List.set_cons_zero, List.set_cons_succ]
          refine quiet_eql (by rfl) (.tmp 112) (.tmp 115) _ rfl _ _ rfl rfl true heq ?_
          simp only [Act.put, List.setIfInBounds_toArray, List.set_cons_zero, List.set_cons_succ]
          refine quiet_move (by rfl) (.tmp 116) rfl (.bool true) rfl ?_
          simp only [Act.put, List.setIfInBounds_toArray, List.set_cons_zero, List.set_cons_succ]
          with_reducible refine wpQuiet_step ?_
          intro K hK
          rw [if_pos (by go_simp)]
          refine move_at (.tmp 3) rfl (.pointer (some ⟨w.heap.size + 1, 0, none⟩)) rfl (hK _ ?_)
          clear hK K
          simp only [Act.put, List.setIfInBounds_toArray, List.set_cons_zero, List.set_cons_succ]
          with_reducible refine wpQuiet_step ?_
          intro K hK
          rw [if_pos (by go_simp)]
          refine call_at 13 #[.pointer (some ⟨w.heap.size + 1, 0, none⟩)] (.agg (idC (digL xs))) (fun W => by go_simp) (fun W hW => HSM.out W hW) (hK _ ?_)
          clear hK K
          simp only [Act.put, List.setIfInBounds_toArray, List.set_cons_zero, List.set_cons_succ]
          with_reducible refine wpQuiet_step ?_
          intro K hK
          rw [if_pos (by go_simp)]
          refine move_at (.tmp 3) rfl (.pointer (some ⟨w.heap.size + 1, 0, none⟩)) rfl (hK _ ?_)
          clear hK K
          simp only [Act.put, List.setIfInBounds_toArray, List.set_cons_zero, List.set_cons_succ]
          with_reducible refine wpQuiet_step ?_
          intro K hK
          rw [if_pos (by go_simp)]
          refine call_at 13 #[.pointer (some ⟨w.heap.size + 1, 0, none⟩)] (.agg (idC (digL xs))) (fun W => by go_simp) (fun W hW => HSM.out W hW) (hK _ ?_)
          clear hK K
          simp only [Act.put, List.setIfInBounds_toArray, List.set_cons_zero, List.set_cons_succ]
          with_reducible refine wpQuiet_step ?_
          intro K hK
          rw [if_pos (by go_simp)]
          refine eql_at (.tmp 119) (.tmp 121) _ rfl _ _ rfl rfl true heq (hK _ ?_)
          clear hK K
          simp only [Act.put, List.setIfInBounds_toArray, List.set_cons_zero, List.set_cons_succ]
          refine quiet_val (by rfl) (.bool true) (fun W => by go_simp) ?_
          simp only [Act.put, List.setIfInBounds_toArray, List.set_cons_zero, List.set_cons_succ]
          refine quiet_move (by rfl) (.tmp 123) rfl (.bool true) rfl ?_
          simp only [Act.put, List.setIfInBounds_toArray, List.set_cons_zero, List.set_cons_succ]
          with_reducible refine wpQuiet_step ?_
          intro K hK
          rw [if_pos (by go_simp)]
          refine move_at (.tmp 4) rfl (.pointer (some ⟨w1.heap.size, 0, none⟩)) rfl (hK _ ?_)
          clear hK K
          simp only [Act.put, List.setIfInBounds_toArray, List.set_cons_zero, List.set_cons_succ]
          with_reducible refine wpQuiet_step ?_
          intro K hK
          rw [if_pos (by go_simp)]
          refine call_at 13 #[.pointer (some ⟨w1.heap.size, 0, none⟩)] (.agg (idC (digL (besL i)))) (fun W => by go_simp) (fun W hW => HSO.out W hW) (hK _ ?_)
          clear hK K
          simp only [Act.put, List.setIfInBounds_toArray, List.set_cons_zero, List.set_cons_succ]
          with_reducible refine wpQuiet_step ?_
          intro K hK
          rw [if_pos (by go_simp)]
          refine move_at (.tmp 6) rfl u6 rfl (hK _ ?_)
          clear hK K
          simp only [Act.put, List.setIfInBounds_toArray, List.set_cons_zero, List.set_cons_succ]
          with_reducible refine wpQuiet_step ?_
          intro K hK
          rw [if_pos (by go_simp)]
          refine call_at 12 #[u6] (.agg (idC (digL (besL i)))) (fun W => by go_simp) (fun W hW => HSB.out W hW) (hK _ ?_)
          clear hK K
          simp only [Act.put, List.setIfInBounds_toArray, List.set_cons_zero, List.set_cons_succ]
          with_reducible refine wpQuiet_step ?_
          intro K hK
          rw [if_pos (by go_simp)]
          refine eql_at (.tmp 126) (.tmp 128) _ rfl _ _ rfl rfl true heq2 (hK _ ?_)
          clear hK K
          simp only [Act.put, List.setIfInBounds_toArray, List.set_cons_zero, List.set_cons_succ]
          refine quiet_val (by rfl) (.bool true) (fun W => by go_simp) ?_
          simp only [Act.put, List.setIfInBounds_toArray, List.set_cons_zero, List.set_cons_succ]
          refine quiet_assign (by rfl) (.tmp 130) rfl (.bool true) rfl ?_
          simp only [Act.put, List.setIfInBounds_toArray, List.set_cons_zero, List.set_cons_succ]
          refine wpQuiet_nil fun w9 hk9 => ?_
          have HK9 : Hid (Kept [] w w9) := HE.out.kept.then hk9
          clear hk9
          go_wp2
          go_ret
          exact ⟨rfl, HK9.out⟩
        · clear hA hX
          go_wp2
          refine region_quiet (Kept [] wr) (by kernel_rfl) (by kernel_rfl) (Kept.refl [] wr).drew ?_
          refine quiet_move (by rfl) (.tmp 3) rfl (.pointer (some ⟨w.heap.size + 1, 0, none⟩)) rfl ?_
          simp only [Act.put, List.setIfInBounds_toArray, List.set_cons_zero, List.set_cons_succ]
          refine quiet_call (by rfl) 13 #[.pointer (some ⟨w.heap.size + 1, 0, none⟩)] (.agg (idC (digL xs))) (fun W => by go_simp) (fun W hW => HSM.out W hW) ?_
          simp only [Act.put, List.setIfInBounds_toArray, List.set_cons_zero, List.set_cons_succ]
          refine quiet_val (by rfl) (.pointer (some ⟨w.heap.size, 0, none⟩)) (fun W => by go_simp) ?_
          simp only [Act.put, List.setIfInBounds_toArray, List.set_cons_zero, List.set_cons_succ]
          refine valC (by rfl) (.slice ao xs.length cap) (fun W hW => by have c0 := HC0.out W hW; go_simp) ?_
          simp only [Act.put, List.setIfInBounds_toArray, List.set_cons_zero, List.set_cons_succ]
          refine quiet_call (by rfl) 12 #[.slice ao xs.length cap] (.agg (idC (digL xs))) (fun W => by go_simp) (fun W hW => HSP.out W hW) ?_
          simp only [Act.put, List.setIfInBounds_toArray, List.set_cons_zero, List.set_cons_succ]
          refine quiet_eql (by rfl) (.tmp 112) (.tmp 115) _ rfl _ _ rfl rfl true heq ?_
          simp only [Act.put, List.setIfInBounds_toArray, List.set_cons_zero, List.set_cons_succ]
          refine quiet_move (by rfl) (.tmp 116) rfl (.bool true) rfl ?_
          simp only [Act.put, List.setIfInBounds_toArray, List.set_cons_zero, List.set_cons_succ]
          with_reducible refine wpQuiet_step ?_
          intro K hK
          rw [if_pos (by go_simp)]
          refine move_at (.tmp 3) rfl (.pointer (some ⟨w.heap.size + 1, 0, none⟩)) rfl (hK _ ?_)
          clear hK K
          simp only [Act.put, List.setIfInBounds_toArray, List.set_cons_zero, List.set_cons_succ]
          with_reducible refine wpQuiet_step ?_
          intro K hK
          rw [if_pos (by go_simp)]
          refine call_at 13 #[.pointer (some ⟨w.heap.size + 1, 0, none⟩)] (.agg (idC (digL xs))) (fun W => by go_simp) (fun W hW => HSM.out W hW) (hK _ ?_)
          clear hK K
          simp only [Act.put, List.setIfInBounds_toArray, List.set_cons_zero, List.set_cons_succ]
          with_reducible refine wpQuiet_step ?_
          intro K hK
          rw [if_pos (by go_simp)]
          refine move_at (.tmp 3) rfl (.pointer (some ⟨w.heap.size + 1, 0, none⟩)) rfl (hK _ ?_)
          clear hK K
          simp only [Act.put, List.setIfInBounds_toArray, List.set_cons_zero, List.set_cons_succ]
          with_reducible refine wpQuiet_step ?_
          intro K hK
          rw [if_pos (by go_simp)]
          refine call_at 13 #[.pointer (some ⟨w.heap.size + 1, 0, none⟩)] (.agg (idC (digL xs))) (fun W => by go_simp) (fun W hW => HSM.out W hW) (hK _ ?_)
          clear hK K
          simp only [Act.put, List.setIfInBounds_toArray, List.set_cons_zero, List.set_cons_succ]
          with_reducible refine wpQuiet_step ?_
          intro K hK
          rw [if_pos (by go_simp)]
          refine eql_at (.tmp 119) (.tmp 121) _ rfl _ _ rfl rfl true heq (hK _ ?_)
          clear hK K
          simp only [Act.put, List.setIfInBounds_toArray, List.set_cons_zero, List.set_cons_succ]
          refine quiet_val (by rfl) (.bool true) (fun W => by go_simp) ?_
          simp only [Act.put, List.setIfInBounds_toArray, List.set_cons_zero, List.set_cons_succ]
          refine quiet_move (by rfl) (.tmp 123) rfl (.bool true) rfl ?_
          simp only [Act.put, List.setIfInBounds_toArray, List.set_cons_zero, List.set_cons_succ]
          with_reducible refine wpQuiet_step ?_
          intro K hK
          rw [if_pos (by go_simp)]
          refine move_at (.tmp 4) rfl (.pointer (some ⟨w1.heap.size, 0, none⟩)) rfl (hK _ ?_)
          clear hK K
          simp only [Act.put, List.setIfInBounds_toArray, List.set_cons_zero, List.set_cons_succ]
          with_reducible refine wpQuiet_step ?_
          intro K hK
          rw [if_pos (by go_simp)]
          refine call_at 13 #[.pointer (some ⟨w1.heap.size, 0, none⟩)] (.agg (idC (digL (besL i)))) (fun W => by go_simp) (fun W hW => HSO.out W hW) (hK _ ?_)
          clear hK K
          simp only [Act.put, List.setIfInBounds_toArray, List.set_cons_zero, List.set_cons_succ]
          with_reducible refine wpQuiet_step ?_
          intro K hK
          rw [if_pos (by go_simp)]
          refine move_at (.tmp 6) rfl u6 rfl (hK _ ?_)
          clear hK K
          simp only [Act.put, List.setIfInBounds_toArray, List.set_cons_zero, List.set_cons_succ]
          with_reducible refine wpQuiet_step ?_
          intro K hK
          rw [if_pos (by go_simp)]
          refine call_at 12 #[u6] (.agg (idC (digL (besL i)))) (fun W => by go_simp) (fun W hW => HSB.out W hW) (hK _ ?_)
          clear hK K
          simp only [Act.put, List.setIfInBounds_toArray, List.set_cons_zero, List.set_cons_succ]
          with_reducible refine wpQuiet_step ?_
          intro K hK
          rw [if_pos (by go_simp)]
          refine eql_at (.tmp 126) (.tmp 128) _ rfl _ _ rfl rfl true heq2 (hK _ ?_)
          clear hK K
          simp only [Act.put, List.setIfInBounds_toArray, List.set_cons_zero, List.set_cons_succ]
          refine quiet_val (by rfl) (.bool true) (fun W => by go_simp) ?_
          simp only [Act.put, List.setIfInBounds_toArray, List.set_cons_zero, List.set_cons_succ]
          refine quiet_assign (by rfl) (.tmp 130) rfl (.bool true) rfl ?_
          simp only [Act.put, List.setIfInBounds_toArray, List.set_cons_zero, List.set_cons_succ]
          refine wpQuiet_nil fun w9 hk9 => ?_
          have HK9 : Hid (Kept [] w w9) := HE.out.kept.then hk9
          clear hk9
          go_wp2
          go_ret
          exact ⟨rfl, HK9.out⟩
end Go.Proofs.YtbhhkonhoknifaaDoor
