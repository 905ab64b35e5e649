/-
  WALK: (*satchellaw1.Late).Settle.
-/
import Derived.Test.YtldhbcppnoldiaaBk8
namespace Go.Proofs.Ytldhbcppnoldiaa
open Go.RowKit

structure Setl (W W' : World) (B bb lb : Nat) (turn : Nat) (gs : List LEnt) (n : Int) (SB SL : List Nat) : Prop where
  ex : ∃ es a turn' done SB' gs' SL', Bk W' B bb es a turn' done SB' ∧ La W' B lb gs' SL' ∧ (∀ x, x ∈ SB' → x ∉ SL') ∧ turn' + gs'.length ≤ turn + gs.length ∧ gs'.length ≤ gs.length ∧ ((gs'.length : Int) < n ∨ gs' = []) ∧ Kept (SB ++ SL) W W' ∧ (∀ x, x ∈ SB' → x ∈ SB ++ SL ∨ W.heap.size ≤ x) ∧ (∀ x, x ∈ SL' → x ∈ SB ++ SL ∨ W.heap.size ≤ x)

/-- While the answers go into the book. -/
structure StSt (W wr : World) (B bb lb : Nat) (turn i : Nat) (vg vw : Value) (gs : List LEnt) (SB SL : List Nat) : Prop where
  ex : ∃ es a done SB', Bk wr B bb es a (turn + i) done SB' ∧ wr.heap[lb]? = some (.cells #[vg, vw, .slice none 0 0, .slice none 0 0] 52 (0, 0)) ∧ wr.ownsRow B 22 1 vg (gs.map LEnt.got).length (gs.map LEnt.got) ∧
    (∀ (j : Nat) (x : LEnt), gs[j]? = some x → i ≤ j → OwnB wr B x.got x.ys ∧ ∀ g, x.got.ownBlock = some g → g ∉ SB') ∧ Kept (SB ++ SL) W wr ∧ (∀ y, y ∈ SB' → y ∈ SB ++ SL ∨ W.heap.size ≤ y) ∧ lb ∉ SB' ∧ (∀ g, vg.ownBlock = some g → g ∉ SB')

set_option maxRecDepth 100000 in
set_option maxHeartbeats 8000000 in
theorem Settle_any {W : World} {B bb lb : Nat} {es : List Ent} {a turn : Nat} {done : Int} {gs : List LEnt} {SB SL : List Nat} (hbk : Bk W B bb es a turn done SB) (hla : La W B lb gs SL) (hd : ∀ x, x ∈ SB → x ∉ SL) (n : Int) (ht : turn + gs.length ≤ 5000) (hB : B ≤ W.heap.size) :
    Calls Try.prog 17 #[.pointer (some ⟨lb, 0, none⟩), .pointer (some ⟨bb, 0, none⟩), .int .i64 n] W fun e w' => e = .returned (.bool true) ∧ Setl W w' B bb lb turn gs n SB SL := by
  obtain ⟨vg, vw, P, hS⟩ := hla.ex
  obtain ⟨q0, q1, q2, q3, qf⟩ := P.cells
  obtain ⟨⟨ag, cg, hvg⟩, ⟨aw, cw, hvw⟩⟩ := P.form
  have HP : Hid (LaS W B lb vg vw (gs.map LEnt.got) (gs.map LEnt.want) gs) := P
  have HVG : Hid (vg = .slice ag gs.length cg) := hvg
  have HBK : Hid (Bk W B bb es a turn done SB) := hbk
  have HLA : Hid (La W B lb gs SL) := hla
  have HD : Hid (∀ x, x ∈ SB → x ∉ SL) := hd
  have HSL : Hid (SL = footL lb vg vw gs) := hS
  rw [hvg] at q0
  have w1 : IntKind.i64.wrap (gs.length : Int) = gs.length := by rw [IntKind.wrap_i64]; omega
  clear P hvg hvw q1 q3 hbk hla hd hS
  by_cases hlt : (gs.length : Int) < n
  · have d1 : decide ((gs.length : Int) < n) = true := by simpa using hlt
    go_enter Try.func17, Try.ntmps17
    go_wp2
    go_quiet (fail)
    go_wp2
    go_ret
    exact ⟨rfl, ⟨es, a, turn, done, SB, gs, SL, HBK.out.on0 ((Kept.refl _ _).drewN _), HLA.out.on (T := []) ((Kept.refl _ _).drewN _) (by simp), HD.out, Nat.le_refl _, Nat.le_refl _, Or.inl hlt, ((Kept.refl [] W).drewN _).more (by simp), fun x hx => Or.inl (List.mem_append_left _ hx), fun x hx => Or.inl (List.mem_append_right _ hx)⟩⟩
  · have d1 : decide ((gs.length : Int) < n) = false := by simpa using hlt
    go_enter Try.func17, Try.ntmps17
    go_wp2_with fail
    go_quiet (fail)
    have hsm := same_yes (HLA.out.on (T := []) ((Kept.refl [] W).drewN nq) (by simp)) (by omega)
    go_wp2_with fail
    go_at_call 45
    refine hsm.mono ?_
    rintro e w2 ⟨rfl, n2, rfl⟩
    have k2 : Kept [] W ((W.drewN nq).drewN n2) := ((Kept.refl [] W).drewN nq).drewN n2
    have HS2 : Hid (StSt W ((W.drewN nq).drewN n2) B bb lb turn 0 vg vw gs SB SL) := by
      have P2 := HP.out.on k2 (fun _ _ => by simp)
      refine ⟨es, a, done, SB, HBK.out.on0 k2, P2.box, P2.own, fun j x hx _ => ⟨P2.got x (List.mem_of_getElem? hx), fun g hg h => ?_⟩, k2.more (by simp), fun y hy => Or.inl (List.mem_append_left _ hy), fun h => ?_, fun g hg h => ?_⟩
      · refine HD.out g h ?_
        rw [HSL.out]
        simp only [footL, List.mem_cons, List.mem_append, List.mem_flatMap]
        exact Or.inr (Or.inr ⟨x, List.mem_of_getElem? hx, by simp [LEnt.blks, hg]⟩)
      · exact HD.out lb h (by rw [HSL.out]; simp [footL])
      · exact HD.out g h (by rw [HSL.out]; simp [footL, hg])
    clear hsm k2 HBK q0 q2 qf
    generalize (W.drewN nq).drewN n2 = w2 at *
    obtain ⟨es2, a2, done2, SB2, _, hbx2, _⟩ := HS2.out.ex
    obtain ⟨c2, f2, _⟩ := own_facts hbx2
    clear hbx2
    go_wp2
    clear c2 f2
    go_loopw [7] (fun s7 wr => ∃ i : Nat, s7 = .int .i64 i ∧ i ≤ gs.length ∧ Hid (StSt W wr B bb lb turn i vg vw gs SB SL)) (fun s7 _ => gs.length - (intOf s7).toNat)
    case atStart => exact ⟨0, rfl, Nat.zero_le _, HS2.out⟩
    case round =>
      clear HS2
      obtain ⟨i, rfl, hi, HS⟩ := hrel
      obtain ⟨es1, a1, done1, SB1, hb1, hbx, how, hgo, hk, hf, hl1, hl2⟩ := HS.out.ex
      have hcs := (own_facts hbx).1
      have e0 : wr.cell? ⟨lb, 0, none⟩ = some (.slice ag gs.length cg) := by rw [← HVG.out]; exact hcs 0
      have e2 : wr.cell? ⟨lb, 2, none⟩ = some (.slice none 0 0) := hcs 2
      have ef := (own_facts hbx).2.1
      obtain ⟨ew0, he0⟩ : ∃ c, wr.cell? ⟨lb, 0, none⟩ = some c := ⟨_, e0⟩
      obtain ⟨ew1, he1⟩ : ∃ c, wr.cell? ⟨lb, 1, none⟩ = some c := ⟨vw, hcs 1⟩
      obtain ⟨ew3, he3⟩ : ∃ c, wr.cell? ⟨lb, 3, none⟩ = some c := ⟨_, hcs 3⟩
      by_cases hil : i < gs.length
      · have t1 : decide ((i : Int) < (gs.length : Int)) = true := by simp; omega
        obtain ⟨x, hx⟩ : ∃ x, gs[i]? = some x := ⟨gs[i], List.getElem?_eq_getElem (by omega)⟩
        obtain ⟨gg, rfl, c1, cc1⟩ := row_at HVG.out (List.length_map _) how (k := i) (x := x.got) (by rw [List.getElem?_map, hx]; rfl)
        have hxm := List.mem_of_getElem? hx
        obtain ⟨ho, hoB⟩ := hgo i x hx (Nat.le_refl _)
        have hlen := HP.out.len x hxm
        have hcall := Bytes_bk hb1 ho hoB (by omega) (by omega) (by have := hk.size; omega)
        have HNx : Hid (∀ w3, TookB wr w3 B bb (turn + i) SB1 x.got → StSt W w3 B bb lb turn (i + 1) vg vw gs SB SL) := fun w3 ht3 => by
          obtain ⟨es3, a3, done3, SB3, hb3, k3, f3⟩ := ht3.ex
          have hw3 := hk.size
          have hlbl := lt_of_block hbx
          have hxb := HP.out.bl x hxm
          have hgot : ∀ g, x.got.ownBlock = some g → g ∈ SL := fun g hg => by
            rw [HSL.out]
            simp only [footL, List.mem_cons, List.mem_append, List.mem_flatMap]
            exact Or.inr (Or.inr ⟨x, hxm, by simp [LEnt.blks, hg]⟩)
          have hn : ∀ y, y ∉ SB1 → x.got.ownBlock ≠ some y → y ∉ SB1 ++ x.got.ownBlock.toList := fun y h1 h2 h3 => by
            rcases List.mem_append.1 h3 with h | h
            · exact h1 h
            · exact h2 (by simpa using h)
          have hn3 : ∀ y, y ∉ SB1 → x.got.ownBlock ≠ some y → y < wr.heap.size → y ∉ SB3 := fun y h1 h2 h3 h4 => by
            rcases f3 y h4 with h | h | h
            · exact h1 h
            · exact h2 h
            · omega
          have hlbx : x.got.ownBlock ≠ some lb := fun e => (hxb lb (by simp [LEnt.blks, e])).1 rfl
          have hvgx : ∀ g, vg.ownBlock = some g → x.got.ownBlock ≠ some g := fun g hg e => (hxb g (by simp [LEnt.blks, e])).2.1 hg
          refine ⟨es3, a3, done3, SB3, hb3, k3.heap hbx (hn lb hl1 hlbx), owns_on how k3 (fun g hg => hn g (hl2 g hg) (hvgx g hg)), fun j y hy hj => ?_, hk.trans k3 (fun y hy => ?_), fun y hy => ?_, hn3 lb hl1 hlbx hlbl, fun g hg => hn3 g (hl2 g hg) (hvgx g hg) (World.ownsRow.lt how g hg).2⟩
          · obtain ⟨oy, oyB⟩ := hgo j y hy (by omega)
            have hpw : ∀ g, x.got.ownBlock = some g → y.got.ownBlock ≠ some g := by
              have hp := List.pairwise_iff_getElem.1 HP.out.pw i j (by omega) (List.getElem?_eq_some_iff.1 hy).1 (by omega)
              rw [(List.getElem?_eq_some_iff.1 hx).2, (List.getElem?_eq_some_iff.1 hy).2] at hp
              exact hp
            have hyx : ∀ g, y.got.ownBlock = some g → x.got.ownBlock ≠ some g := fun g hg e => hpw g e hg
            exact ⟨OwnB.kept oy k3 (fun g hg => hn g (oyB g hg) (hyx g hg)), fun g hg => hn3 g (oyB g hg) (hyx g hg) (World.ownsRow.lt oy g hg).2⟩
          · rcases List.mem_append.1 hy with h | h
            · exact hf y h
            · exact Or.inl (List.mem_append_right _ (hgot y (by simpa using h)))
          · rcases f3 y hy with h | h | h
            · exact hf y h
            · exact Or.inl (List.mem_append_right _ (hgot y h))
            · exact Or.inr (by omega)
        have i0 : (0 : Int) ≤ i := by omega
        have i1 : (i : Int) < gs.length := by omega
        clear hb1 hbx how hgo hk hf hl1 hl2 ho hoB hx hxm hlen HS hcs ef he0 he1 he3 e2
        generalize x.got = xg at *
        go_wp2_with fail
        go_at_call 46
        refine hcall.mono ?_
        rintro e w3 ⟨rfl, ht3⟩
        have HS3 : Hid (StSt W w3 B bb lb turn (i + 1) vg vw gs SB SL) := HNx.out w3 ht3
        clear hcall ht3 c1 e0
        go_wp2
        go_roundw
        case rel => exact ⟨i + 1, by go_num, by omega, HS3.out⟩
        case measure => simp [intOf]; omega
      · have t1 : decide ((i : Int) < (gs.length : Int)) = false := by simp; omega
        obtain ⟨w9, hw9⟩ : ∃ w9, w9 = (((wr.setCell ⟨lb, 0, none⟩ (.slice none 0 0)).setCell ⟨lb, 1, none⟩ (.slice none 0 0)).setCell ⟨lb, 2, none⟩ (.slice none 0 0)).setCell ⟨lb, 3, none⟩ (.slice none 0 0) := ⟨_, rfl⟩
        have k9 : Kept [lb] wr w9 := by
          rw [hw9]
          exact ((((Kept.refl [lb] wr).setCell (p := ⟨lb, 0, none⟩) (Or.inl (by simp)) _).setCell (p := ⟨lb, 1, none⟩) (Or.inl (by simp)) _).setCell (p := ⟨lb, 2, none⟩) (Or.inl (by simp)) _).setCell (p := ⟨lb, 3, none⟩) (Or.inl (by simp)) _
        have hbx9 : w9.heap[lb]? = some (.cells #[.slice none 0 0, .slice none 0 0, .slice none 0 0, .slice none 0 0] 52 (0, 0)) := by
          rw [hw9]
          exact heap_setCell_same _ _ _ _ _ _ (heap_setCell_same _ _ _ _ _ _ (heap_setCell_same _ _ _ _ _ _ (heap_setCell_same _ _ _ _ _ _ hbx)))
        have hb9 : Bk w9 B bb es1 a1 (turn + i) done1 SB1 := hb1.on k9 (fun x hx e => hl1 (by rw [← List.mem_singleton.1 e]; exact hx))
        have hs9 := hk.size
        have hs10 := k9.size
        have hla9 : La w9 B lb [] [lb] := ⟨_, _, ⟨hbx9, World.ownsRow_nil _ _ _ _, World.ownsRow_nil _ _ _ _, HP.out.low, (fun g hg => by simp [Value.ownBlock] at hg), (fun x hx => by simp at hx), (fun x hx => by simp at hx), (fun x hx => by simp at hx), (fun x hx => by simp at hx), List.Pairwise.nil⟩, rfl⟩
        have hlk := Look_any' hb9 (by omega) (by omega)
        have hlbs : lb ∈ SL := by rw [HSL.out]; simp [footL]
        have hk9 : Kept (SB ++ SL) W w9 := hk.trans k9 (fun y hy => Or.inl (by rw [List.mem_singleton.1 hy]; exact List.mem_append_right _ hlbs))
        have hlbl := lt_of_block hbx9
        have HFin : Hid (∀ w', LookedB w9 w' B bb (turn + i) SB1 → Setl W w' B bb lb turn gs n SB SL) := fun w' hL => by
          obtain ⟨es4, a4, done4, SB4, hb4, k4, f4⟩ := hL.ex
          have hn4 : lb ∉ SB4 := fun h => by
            rcases f4 lb h with h | h
            · exact hl1 h
            · omega
          refine ⟨es4, a4, turn + i, done4, SB4, [], [lb], hb4, hla9.on k4 (fun y hy e => hl1 (by rw [← List.mem_singleton.1 hy]; exact e)), fun y hy e => hn4 (by rw [← List.mem_singleton.1 e]; exact hy), by simp; omega, by simp, Or.inr rfl, hk9.trans k4 hf, fun y hy => ?_, fun y hy => Or.inl (by rw [List.mem_singleton.1 hy]; exact List.mem_append_right _ hlbs)⟩
          rcases f4 y hy with h | h
          · exact hf y h
          · exact Or.inr (by omega)
        rw [hw9] at hlk
        clear hb1 hbx how hgo hk hf hl1 hl2 HS hcs k9 hbx9 hb9 hla9 hk9
        go_wp2
        go_loopw [8] (fun s8 wq => s8 = .int .i64 0 ∧ wq = wr) (fun _ _ => 0)
        case atStart => exact ⟨rfl, rfl⟩
        case round =>
          obtain ⟨rfl, hwq⟩ := hrel
          subst hwq
          go_wp2_with fail
          go_at_call 18
          refine hlk.mono ?_
          rintro e w10 ⟨rfl, hL⟩
          rw [← hw9] at hL
          have HF := HFin.out w10 hL
          have HFF : Hid (Setl W w10 B bb lb turn gs n SB SL) := HF
          clear HF hL hlk
          go_wp2
          go_ret
          exact ⟨rfl, HFF.out⟩
end Go.Proofs.Ytldhbcppnoldiaa
