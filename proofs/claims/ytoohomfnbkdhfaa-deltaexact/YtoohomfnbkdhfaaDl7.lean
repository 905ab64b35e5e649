/-
  WALK: the document's own: satchelref7.Pieces.
-/
import Derived.Test.YtoohomfnbkdhfaaDl3
import Derived.Test.YtoohomfnbkdhfaaDl6
namespace Go.Proofs.Ytoohomfnbkdhfaa
open Go.RowKit

/-- A piece as it lies in a list: where its new bytes are, from where, how long; these bytes; what it gives. -/
structure Pc where
  an : Option Addr
  nn : Nat
  cn : Nat
  frm : Int
  long : Int
  ts : List Int
  text : List Int
def Pc.row (p : Pc) : List Value := [.slice p.an p.nn p.cn, .int .i64 p.frm, .int .i64 p.long]
def rowsP (ps : List Pc) : List Value := ps.flatMap Pc.row
theorem rowsP_len (ps : List Pc) : (rowsP ps).length = ps.length * 3 := by
  induction ps with
  | nil => rfl
  | cons p ps ih =>
    show (p.row ++ rowsP ps).length = _
    rw [List.length_append, ih, List.length_cons]
    show 3 + ps.length * 3 = _
    omega
theorem rowsP_snoc (ps : List Pc) (p : Pc) : rowsP (ps ++ [p]) = rowsP ps ++ p.row := by simp [rowsP]
def textP (ps : List Pc) : List Int := ps.flatMap Pc.text
theorem textP_snoc (ps : List Pc) (p : Pc) : textP (ps ++ [p]) = textP ps ++ p.text := by simp [textP]

structure PcAt (w : World) (bs : List Int) (B : Nat) (v : Value) (p : Pc) : Prop where
  new : BytesAt w (.slice p.an p.nn p.cn) p.ts
  apart : p.ts ≠ [] → ∀ k, blkOf (.slice p.an p.nn p.cn) = some k → B ≤ k ∧ v.ownBlock ≠ some k
  kind : (p.frm = -1 ∧ p.long = 0 ∧ p.text = p.ts) ∨ (p.ts = [] ∧ ∃ st n : Nat, p.frm = st ∧ p.long = n ∧ st + n ≤ bs.length ∧ p.text = (bs.drop st).take n)
theorem PcAt.len {w : World} {bs : List Int} {B : Nat} {v : Value} {p : Pc} (h : PcAt w bs B v p) : p.nn = p.ts.length ∧ (p.text.length : Int) = p.nn + p.long ∧ 0 ≤ p.long := by
  obtain ⟨_, _, he, _⟩ := h.new
  injection he with e1 e2 e3
  refine ⟨e2, ?_⟩
  rcases h.kind with ⟨h1, h2, h3⟩ | ⟨h1, st, n, h2, h3, h4, h5⟩
  · rw [h3, h2, e2]; omega
  · rw [h5, h3, e2, h1, List.length_take, List.length_drop]; simp; omega
theorem PcAt.kept {w w' : World} {bs : List Int} {B : Nat} {v v' : Value} {p : Pc} {S : List Nat} (h : PcAt w bs B v p) (k : Kept S w w') (hS : ∀ x, B ≤ x → v.ownBlock ≠ some x → x ∉ S) (hv : v'.ownBlock = v.ownBlock ∨ v'.ownBlock = some w.heap.size) : PcAt w' bs B v' p := by
  refine ⟨h.new.kept' k (fun hne x hx => hS x (h.apart hne x hx).1 (h.apart hne x hx).2), fun hne x hx => ⟨(h.apart hne x hx).1, ?_⟩, h.kind⟩
  rcases hv with e | e
  · rw [e]; exact (h.apart hne x hx).2
  · rw [e]
    intro hc
    injection hc with hc
    have := h.new.lt hne x hx
    omega

/-- A list of pieces of one's own. -/
structure PcsAt (w : World) (bs : List Int) (B : Nat) (v : Value) (ps : List Pc) : Prop where
  own : w.ownsRow B 102 3 v ps.length (rowsP ps)
  each : ∀ p, p ∈ ps → PcAt w bs B v p
theorem PcsAt.kept {w w' : World} {bs : List Int} {B : Nat} {v : Value} {ps : List Pc} {S : List Nat} (h : PcsAt w bs B v ps) (k : Kept S w w') (hS : ∀ x, B ≤ x → x ∉ S) : PcsAt w' bs B v ps := by
  refine ⟨⟨h.own.1, ?_⟩, fun p hp => (h.each p hp).kept k (fun x hx _ => hS x hx) (Or.inl rfl)⟩
  rcases h.own.2 with hn | ⟨g, cap', cur, hv, hg, hh, rest⟩
  · exact Or.inl hn
  · exact Or.inr ⟨g, cap', cur, hv, hg, k.heap hh (hS g hg), rest⟩

theorem pc_new (W : World) (p : Pc) (t : TypeId) : ∀ j u, p.row[j]? = some u → (W.alloc (.cells #[.slice p.an p.nn p.cn, .int .i64 p.frm, .int .i64 p.long] t)).cell? ((⟨W.heap.size, 0, none⟩ : Addr).add j) = some u := by
  intro j u hj
  rw [Addr.add_mid, Nat.zero_add, cell_of_row _ _ _ _ _ _ (heap_alloc_new W _), ← Array.getElem?_toList]
  exact hj
theorem Try.infoPc : (Try.prog.info? 102).map (fun i => (i.zero, i.size, i.bytes)) = some (some (.agg #[.slice none 0 0, .int .i64 0, .int .i64 0]), 3, 40) := by kernel_rfl

/-- What lies where on the way: the Eye and the list. -/
structure PsSt (w W : World) (ao : Option Addr) (cap : Nat) (bs ds : List Int) (pl : Nat) (v : Value) (ps : List Pc) : Prop where
  kept : Kept [] w W
  eye : EyeG W w.heap.size ao cap ds pl 0
  own : PcsAt W bs (w.heap.size + 1) v ps
  le : w.heap.size + 1 ≤ W.heap.size

theorem PsSt.app {w W w6 : World} {ao : Option Addr} {cap : Nat} {bs ds : List Int} {pl : Nat} {v v6 : Value} {ps : List Pc} {p : Pc} (hK : Kept [] w W) (hE : EyeG W w.heap.size ao cap ds pl 0) (hQ : ∀ q, q ∈ ps → PcAt W bs (w.heap.size + 1) v q) (hp : PcAt W bs (w.heap.size + 1) v p)
    (hol : ∀ k, v.ownBlock = some k → w.heap.size + 1 ≤ k) (hbk : ds ≠ [] → ∀ k, blkOf (.slice ao ds.length cap) = some k → k < w.heap.size) (hle : w.heap.size + 1 ≤ W.heap.size)
    (ho6 : w6.ownsRow (w.heap.size + 1) 102 3 v6 (ps.length + 1) (rowsP ps ++ p.row)) (hgr6 : W.grownBy w6 v.ownBlock) (hat6 : v6.ownBlock = v.ownBlock ∨ v6.ownBlock = some W.heap.size) : PsSt w w6 ao cap bs ds pl v6 (ps ++ [p]) := by
  have kk : Kept v.ownBlock.toList W w6 := (Kept.refl v.ownBlock.toList W).grown hgr6 (fun k hk => Or.inl (by simp [hk]))
  have hbb : ∀ x, x ∈ v.ownBlock.toList → w.heap.size + 1 ≤ x := fun x hx => hol x (by simpa using hx)
  have r1 : Kept [] w w6 := hK.trans kk (fun x hx => Or.inr (by have := hbb x hx; omega))
  have r2 : EyeG w6 w.heap.size ao cap ds pl 0 := hE.kept kk (fun h => by have := hbb _ h; omega) (fun hne k hk h => by have h1 := hbk hne k hk; have h2 := hbb _ h; omega)
  have r3 : ∀ q, q ∈ ps ++ [p] → PcAt w6 bs (w.heap.size + 1) v6 q := by
    intro q hq
    have h0 : PcAt W bs (w.heap.size + 1) v q := (List.mem_append.1 hq).elim (fun h => hQ q h) (fun h => by rw [List.mem_singleton.1 h]; exact hp)
    exact h0.kept kk (fun x _ hx => by simpa using hx) hat6
  have r4 : w6.ownsRow (w.heap.size + 1) 102 3 v6 (ps ++ [p]).length (rowsP (ps ++ [p])) := by
    rw [rowsP_snoc, List.length_append]
    exact ho6
  exact ⟨r1, r2, ⟨r4, r3⟩, by have h1 := hgr6.size; omega⟩

structure PsTo (w w' : World) (bs : List Int) (R : Int × List Int) (e : Ending) : Prop where
  kept : Kept [] w w'
  ends : ∃ an nn cn, ∃ z : Int, e = .returned (.tuple #[.slice an nn cn, .int .i64 z, .int .i64 R.1]) ∧
    (R.1 = 0 → ∃ ps, PcsAt w' bs (w.heap.size + 1) (.slice an nn cn) ps ∧ textP ps = R.2 ∧ ps.length ≤ 65536 ∧ bs.length ≤ 65536 ∧ R.2.length ≤ 65536)

set_option maxRecDepth 100000 in
set_option maxHeartbeats 4000000 in
theorem Pieces_any {w : World} {ao : Option Addr} {cap : Nat} {bs ds : List Int} (hd : BytesAt w (.slice ao ds.length cap) ds) (hod : Octs ds) (hsd : ds.length ≤ 140737488355328) (hsb : bs.length ≤ 140737488355328) (R : Int × List Int) (hR : Hid (R = applyL bs ds)) :
    Calls Try.prog 42 #[.int .i64 bs.length, .slice ao ds.length cap] w fun e w' => PsTo w w' bs R e := by
  obtain ⟨y1, hy1⟩ : ∃ y, Hid (y = takeL ds 0 0 1 0 65536) := ⟨_, rfl⟩
  obtain ⟨y2, hy2⟩ : ∃ y, Hid (y = takeL ds y1.pl y1.f 1 0 topV) := ⟨_, rfl⟩
  have hhe : Hid (R = applyOf bs ds (headOf y1 y2 (decide (y1.n = bs.length)))) := by
    have e : applyL bs ds = applyOf bs ds (headOf y1 y2 (decide (y1.n = bs.length))) := by
      unfold applyL headL len2 len1
      rw [← hy1.out, ← hy2.out]
    exact hR.out.trans e
  have hb1 : 0 ≤ y1.n ∧ y1.n ≤ 65536 := by rw [hy1.out]; exact var_le ds hod 0 0 65536 (by decide)
  have hb2 : 0 ≤ y2.n ∧ y2.n ≤ 18446744073709551615 := by rw [hy2.out]; exact var_le ds hod _ _ topV (by decide)
  have hf1 : y1.f ≤ 4 := by rw [hy1.out]; exact take_f ds hod _ _ _ _ _ (by decide) (by decide) (by decide)
  have hf2 : y2.f ≤ 4 := by rw [hy2.out]; exact take_f ds hod _ _ _ _ _ hf1 (by decide) (by decide)
  have hv1 := EVar_any (EyeG.mk0 hd hod hsd) 65536 y1 hy1
  have HV2 := fun W (hW : EyeG W w.heap.size ao cap ds y1.pl y1.f) => EVar_any hW 18446744073709551615 y2 hy2
  have HBK : Hid (ds ≠ [] → ∀ k, blkOf (.slice ao ds.length cap) = some k → k < w.heap.size) := fun hne => hd.lt hne
  have hwb : IntKind.u64.wrap (bs.length : Int) = bs.length := by rw [IntKind.wrap_u64]; omega
  clear hd hR hy1 hy2
  go_enter Try.func42, Try.ntmps42
  go_wp2_with fail
  go_at_call 44
  refine hv1.mono ?_
  rintro e w1 ⟨rfl, R1, k1⟩
  obtain ⟨d0, d1, d2, d3, d4⟩ := R1.facts
  have HK1 : Hid (Kept [] w w1) := ((Kept.refl [] w).alloc _).trans k1 (by simp)
  have HR1 : Hid _ := R1
  clear hv1 R1 k1
  by_cases c1 : y1.f = 0
  · rw [c1, show errL 0 = 0 from rfl] at d2
    by_cases c2 : y1.n = (bs.length : Int)
    · have e2 : (y1.n != (bs.length : Int)) = false := by simpa using c2
      have C2 : Hid (¬ decide (y1.n = (bs.length : Int)) = false) := (by simpa using c2 : ¬ decide (y1.n = (bs.length : Int)) = false)
      have hsb2 : bs.length ≤ 65536 := by omega
      clear c2
      have hv2 := HV2 w1 HR1.out
      clear HV2 HR1
      go_wp2_with fail
      go_at_call 44
      refine hv2.mono ?_
      rintro e w2 ⟨rfl, R2, k2⟩
      have HK2 : Hid (Kept [] w w2) := HK1.out.trans k2 (by simp)
      clear d0 d1 d2 d3 d4
      obtain ⟨d0, d1, d2, d3, d4⟩ := R2.facts
      have HR2 : Hid _ := R2
      clear hv2 R2 k2 HK1
      by_cases c3 : y2.f = 0
      · rw [c3, show errL 0 = 0 from rfl] at d2
        have HR3 : Hid (EyeG w2 w.heap.size ao cap ds y2.pl 0) := by
          have e := HR2.out
          rw [c3] at e
          exact e
        clear HR2
        by_cases c4 : 65536 < y2.n
        · have hRf : R = (73, []) := by
            have e : headOf y1 y2 (decide (y1.n = bs.length)) = ⟨73, 0, 0, 0⟩ := by unfold headOf; rw [if_neg (by simpa using c1), if_neg C2.out, if_neg (by simpa using c3), if_pos c4]
            rw [hhe.out, e]; rfl
          subst hRf
          go_wp2
          exact bodyPost_ret (v := .tuple #[.slice none 0 0, .int .i64 0, .int .i64 73]) (by simp [results, Try.results42, go_sem]) rfl ⟨HK2.out, none, 0, 0, 0, rfl, fun h => absurd h (by decide)⟩
        · obtain ⟨t, ht⟩ : ∃ t : Nat, y2.n = t := ⟨y2.n.toNat, by omega⟩
          have HRun : Hid (runL bs ds t y2.pl t [] = R) := by
            have e1 : headOf y1 y2 (decide (y1.n = bs.length)) = ⟨0, y1.n, y2.n, y2.pl⟩ := by unfold headOf; rw [if_neg (by simpa using c1), if_neg C2.out, if_neg (by simpa using c3), if_neg c4]
            have e := hhe.out
            rw [e1, ht] at e
            exact e.symm
          rw [ht] at c4 hb2 ⊢
          have hw2 : IntKind.i64.wrap (t : Int) = t := by rw [IntKind.wrap_i64]; omega
          have P3 : PsSt w w2 ao cap bs ds y2.pl (.slice none 0 0) [] := ⟨HK2.out, HR3.out, ⟨World.ownsRow_nil _ _ _ _, fun p hp => by simp at hp⟩, d4⟩
          have HP3 : Hid _ := P3
          clear P3 HR3 HK2 hhe C2
          go_wp2
          clear d0 d1 d2 d3 d4
          go_loopw [10, 11, 12, 13] (fun s10 s11 _ _ wr => ∃ (ps : List Pc) (pl room fuel : Nat) (g10 : Option Addr) (c10 : Nat), s10 = .slice g10 ps.length c10 ∧ s11 = .int .i64 room ∧ room ≤ t ∧ Hid (PsSt w wr ao cap bs ds pl s10 ps ∧ runL bs ds fuel pl room (textP ps) = R ∧ room ≤ fuel ∧ ps.length + room ≤ t ∧ (textP ps).length + room ≤ t)) (fun _ s11 _ _ _ => (intOf s11).toNat)
          case atStart => exact ⟨[], y2.pl, t, t, none, 0, rfl, rfl, Nat.le_refl _, HP3.out, HRun.out, Nat.le_refl _, by simp, by simp [textP]⟩
          case round =>
            clear HP3 HRun
            obtain ⟨ps, pl, room, fuel, g10, c10, rfl, rfl, hrt, HS⟩ := hrel
            have HP : Hid (PsSt w wr ao cap bs ds pl (.slice g10 ps.length c10) ps) := HS.out.1
            have HRun : Hid (runL bs ds fuel pl room (textP ps) = R) := HS.out.2.1
            have HF : Hid (room ≤ fuel) := HS.out.2.2.1
            have HL : Hid (ps.length + room ≤ t) := HS.out.2.2.2.1
            have HT : Hid ((textP ps).length + room ≤ t) := HS.out.2.2.2.2
            clear HS
            by_cases hlt : 0 < room
            · have t1 : decide (0 < (room : Int)) = true := by simp; omega
              obtain ⟨c, hc⟩ : ∃ c, Hid (c = cmdL bs ds pl room) := ⟨_, rfl⟩
              have hone := one_any HP.out.eye bs hsb2 room (by omega) c hc
              go_wp2_with fail
              go_at_call 62
              refine hone.mono ?_
              rintro e w3 ⟨an, nn, cn, frm, long, rfl, s1, s2, s3⟩
              have HS1 : Hid (c.err = 0 → EyeG w3 w.heap.size ao cap ds c.pl 0) := s1
              have HS2 : Hid (c.err = 0 → PieceIs w3 bs (.slice an nn cn) frm long c.text ∧ (∀ k, blkOf (.slice an nn cn) = some k → wr.heap.size ≤ k)) := s2
              have HK3 : Hid (Kept [w.heap.size] wr w3) := s3
              clear hone s1 s2 s3
              by_cases c5 : c.err = 0
              · have hlen := cmd_len bs ds hod pl room (by rw [← hc.out]; exact c5)
                rw [← hc.out] at hlen
                obtain ⟨⟨ts, hts, hkd⟩, hnw⟩ := HS2.out c5
                obtain ⟨p, hp⟩ : ∃ p : Pc, p = ⟨an, nn, cn, frm, long, ts, c.text⟩ := ⟨_, rfl⟩
                have HRun2 : Hid (runL bs ds (fuel - 1) c.pl (room - c.text.length) (textP (ps ++ [p])) = R) := by
                  have e := run_on bs ds fuel pl room (textP ps) HF.out (by omega) (by rw [← hc.out]; exact c5)
                  rw [← hc.out, HRun.out] at e
                  rw [textP_snoc, hp]
                  exact e.symm
                have hB := HP.out.le
                have hol := World.ownsRow.lt HP.out.own.own
                have hsz3 := HK3.out.size
                have PA : PcAt w3 bs (w.heap.size + 1) (.slice g10 ps.length c10) p := by
                  rw [hp]
                  exact ⟨hts, fun _ k hk => ⟨by have := hnw k hk; omega, fun hc => by have h1 := (hol k hc).2; have h2 := hnw k hk; omega⟩, hkd⟩
                have hpl := PA.len
                have hkp : Kept [] w3 ((w3.alloc (.cells #[.slice an nn cn, .int .i64 frm, .int .i64 long] 102)).alloc (.cells #[.slice an nn cn, .int .i64 frm, .int .i64 long] 102)) := ((Kept.refl _ _).alloc _).alloc _
                have Q3 : PcsAt w3 bs (w.heap.size + 1) (.slice g10 ps.length c10) ps := HP.out.own.kept HK3.out (fun x hx => by simp; omega)
                have Q5 := Q3.kept hkp (fun x hx => by simp)
                have HE5 : Hid _ := (HS1.out c5).kept0 hkp
                have PA5 := PA.kept hkp (fun x _ _ => by simp) (Or.inl rfl)
                have hown := Q5.own
                have HPA5 : Hid _ := PA5
                have HQ5 : Hid _ := Q5.each
                have HK5 : Hid (Kept [] w ((w3.alloc (.cells #[.slice an nn cn, .int .i64 frm, .int .i64 long] 102)).alloc (.cells #[.slice an nn cn, .int .i64 frm, .int .i64 long] 102))) := (HP.out.kept.trans HK3.out (by simp)).then hkp
                have HB5 : Hid (((w3.alloc (.cells #[.slice an nn cn, .int .i64 frm, .int .i64 long] 102)).alloc (.cells #[.slice an nn cn, .int .i64 frm, .int .i64 long] 102)).heap[w3.heap.size]? = some (.cells #[.slice an nn cn, .int .i64 frm, .int .i64 long] 102 (0, 0))) := ((Kept.refl [] _).alloc _).heap (heap_alloc_new w3 _) (by simp)
                have HOL : Hid (∀ k, (Value.slice g10 ps.length c10).ownBlock = some k → w.heap.size + 1 ≤ k ∧ k < w3.heap.size) := fun k hk => ⟨(hol k hk).1, Nat.lt_of_lt_of_le (hol k hk).2 hsz3⟩
                have hnews : ∀ j u, p.row[j]? = some u → ((w3.alloc (.cells #[.slice an nn cn, .int .i64 frm, .int .i64 long] 102)).alloc (.cells #[.slice an nn cn, .int .i64 frm, .int .i64 long] 102)).cell? ((⟨w3.heap.size + 1, 0, none⟩ : Addr).add j) = some u := by
                  have h := pc_new (w3.alloc (.cells #[.slice an nn cn, .int .i64 frm, .int .i64 long] 102)) p 102
                  rw [hp] at h ⊢
                  rw [World.size_alloc] at h
                  exact h
                have hone1 : ∀ u ∈ p.row, u.oneCell' = true := by simp [Pc.row, Value.oneCell']
                have hpr : p.row.length = 1 * 3 := rfl
                obtain ⟨i0, hi, hez⟩ := Option.map_eq_some_iff.1 Try.infoPc
                simp only [Prod.mk.injEq] at hez
                obtain ⟨hi0, hi1, hi2⟩ := hez
                have hptx : p.text.length = c.text.length := by rw [hp]
                have hpn : p.nn = nn := by rw [hp]
                have hplg : p.long = long := by rw [hp]
                rw [hptx, hpn, hplg] at hpl
                have HTX : Hid (p.text.length = c.text.length) := hptx
                have hw3 : IntKind.i64.wrap ((room : Int) - nn) = room - nn := by rw [IntKind.wrap_i64]; omega
                have hw4 : IntKind.i64.wrap ((room : Int) - nn - long) = ((room - c.text.length : Nat) : Int) := by rw [IntKind.wrap_i64]; omega
                clear hpl
                have HLn : Hid (ps.length ≤ 65536) := by have h1 := HL.out; exact (by omega : ps.length ≤ 65536)
                have hln := HLn.out
                have hbase : w.heap.size + 1 ≤ ((w3.alloc (.cells #[.slice an nn cn, .int .i64 frm, .int .i64 long] 102)).alloc (.cells #[.slice an nn cn, .int .i64 frm, .int .i64 long] 102)).heap.size := by rw [World.size_alloc, World.size_alloc]; omega
                have HAPP : Hid (∀ v6 w6, w6.ownsRow (w.heap.size + 1) 102 3 v6 (ps.length + 1) (rowsP ps ++ p.row) → World.grownBy _ w6 (Value.slice g10 ps.length c10).ownBlock → (v6.ownBlock = (Value.slice g10 ps.length c10).ownBlock ∨ v6.ownBlock = some _) → PsSt w w6 ao cap bs ds c.pl v6 (ps ++ [p])) :=
                  fun v6 w6 h1 h2 h3 => PsSt.app HK5.out HE5.out HQ5.out HPA5.out (fun k hk => (HOL.out k hk).1) HBK.out hbase h1 h2 h3
                rw [c5]
                clear HS1 HS2 HK3 HP hts hkd hnw hol PA PA5 Q3 Q5 hkp hp hptx hpn hplg HRun
                generalize rowsP ps = rs at hown HAPP
                generalize p.row = pr at hnews hone1 hpr HAPP
                go_wp2_with (at_builtin; refine wpList_append_own_at _ rfl (.tmp 51) (.tmp 53) 98 rfl (w.heap.size + 1) 102 i0 _ 3 40 Try.underlying98 hi hi0 hi1 hi2 rfl (by decide) (.slice g10 ps.length c10) ps.length rs rfl hown ⟨w3.heap.size + 1, 0, none⟩ 1 1 pr rfl hpr hnews hone1 (by unfold maxLen; omega) (by omega) hbase ?_; intro v6 w6 ho6 hgr6 hnl6 hat6
                             have hb6 : w6.heap[w3.heap.size]? = some (.cells #[.slice an nn cn, .int .i64 frm, .int .i64 long] 102 (0, 0)) := (hgr6.block w3.heap.size (lt_of_block HB5.out) (fun e => by have h1 := (HOL.out _ e.symm).2; omega)).trans HB5.out
                             obtain ⟨q1, q2, q3⟩ := own_facts hb6
                             have g0 := q1 0
                             have g1 := q1 2
                             simp at g0 g1
                             obtain ⟨g6, c6, rfl⟩ := own_shape ho6
                             have HP6 : Hid (PsSt w w6 ao cap bs ds c.pl (.slice g6 (ps.length + 1) c6) (ps ++ [p])) := HAPP.out _ w6 ho6 hgr6 hat6
                             clear ho6 hgr6 hnl6 hat6 q1 q2 hb6)
                go_roundw
                case rel =>
                  refine ⟨ps ++ [p], c.pl, room - c.text.length, fuel - 1, g6, c6, by rw [List.length_append]; rfl, rfl, by omega, HP6.out, HRun2.out, by have := HF.out; omega, by rw [List.length_append]; have := HL.out; simp; omega, ?_⟩
                  have h1 := HT.out
                  have h2 := HTX.out
                  rw [textP_snoc, List.length_append, h2]
                  omega
                case measure => simp [intOf]; omega
              · have e5 : (c.err != 0) = true := by simpa using c5
                have hRf : R = (c.err, []) := by
                  have e := run_bad bs ds fuel pl room (textP ps) HF.out (by omega) (by rw [← hc.out]; exact c5)
                  rw [← hc.out, HRun.out] at e
                  exact e
                subst hRf
                have HK4 : Hid (Kept [] w w3) := HP.out.kept.trans HK3.out (by simp)
                have HC5 : Hid (¬ c.err = 0) := c5
                clear HP HRun HK3 HS1 HS2
                go_wp2
                exact bodyPost_ret (v := .tuple #[.slice none 0 0, .int .i64 0, .int .i64 c.err]) (by simp [results, Try.results42, go_sem]) rfl ⟨HK4.out.alloc _, none, 0, 0, 0, rfl, fun h => absurd h HC5.out⟩
            · obtain rfl : room = 0 := by omega
              have hRf : R = if pl < ds.length then (70, []) else (0, textP ps) := by
                have e := HRun.out
                rw [run_done] at e
                exact e.symm
              have hleft := ELeft_any HP.out.eye
              have hle := HP.out.eye.le
              have t1 : decide (0 < ((0 : Nat) : Int)) = false := by simp
              go_wp2_with fail
              go_at_call 63
              refine hleft.mono ?_
              rintro e w3 ⟨rfl, n3, rfl⟩
              clear hleft
              by_cases c6 : pl < ds.length
              · rw [if_pos c6] at hRf
                subst hRf
                have e1 : decide (0 < (ds.length : Int) - pl) = true := by simp; omega
                have HK4 : Hid (Kept [] w (wr.drewN n3)) := HP.out.kept.drewN n3
                clear HP HRun
                go_wp2
                exact bodyPost_ret (v := .tuple #[.slice none 0 0, .int .i64 0, .int .i64 70]) (by simp [results, Try.results42, go_sem]) rfl ⟨HK4.out, none, 0, 0, 0, rfl, fun h => absurd h (by decide)⟩
              · rw [if_neg c6] at hRf
                subst hRf
                have e1 : decide (0 < (ds.length : Int) - pl) = false := by simp; omega
                have HK4 : Hid (Kept [] w (wr.drewN n3)) := HP.out.kept.drewN n3
                have HQ : Hid (PcsAt (wr.drewN n3) bs (w.heap.size + 1) (.slice g10 ps.length c10) ps) := HP.out.own.kept (S := []) ((Kept.refl _ _).drewN n3) (by simp)
                have HLs : Hid (ps.length ≤ 65536 ∧ (textP ps).length ≤ 65536) := by have h1 := HL.out; have h2 := HT.out; exact ⟨by omega, by omega⟩
                clear HP HRun
                go_wp2
                exact bodyPost_ret (v := .tuple #[.slice g10 ps.length c10, .int .i64 t, .int .i64 0]) (by simp [results, Try.results42, go_sem]) rfl ⟨HK4.out, _, _, _, _, rfl, fun _ => ⟨ps, HQ.out, rfl, HLs.out.1, hsb2, HLs.out.2⟩⟩
      · have e3 := err_ne _ hf2 c3
        have hRf : R = (70, []) := by
          have e : headOf y1 y2 (decide (y1.n = bs.length)) = ⟨70, 0, 0, 0⟩ := by unfold headOf; rw [if_neg (by simpa using c1), if_neg C2.out, if_pos c3]
          rw [hhe.out, e]; rfl
        subst hRf
        generalize errL y2.f = z at *
        go_wp2
        exact bodyPost_ret (v := .tuple #[.slice none 0 0, .int .i64 0, .int .i64 70]) (by simp [results, Try.results42, go_sem]) rfl ⟨HK2.out, none, 0, 0, 0, rfl, fun h => absurd h (by decide)⟩
    · have e2 : (y1.n != (bs.length : Int)) = true := by simpa using c2
      have hRf : R = (71, []) := by
        have e : headOf y1 y2 (decide (y1.n = bs.length)) = ⟨71, 0, 0, 0⟩ := by unfold headOf; rw [if_neg (by simpa using c1), if_pos (by simpa using c2)]
        rw [hhe.out, e]; rfl
      subst hRf
      go_wp2
      exact bodyPost_ret (v := .tuple #[.slice none 0 0, .int .i64 0, .int .i64 71]) (by simp [results, Try.results42, go_sem]) rfl ⟨HK1.out, none, 0, 0, 0, rfl, fun h => absurd h (by decide)⟩
  · have e1 := err_ne _ hf1 c1
    have hRf : R = (70, []) := by
      have e : headOf y1 y2 (decide (y1.n = bs.length)) = ⟨70, 0, 0, 0⟩ := by unfold headOf; rw [if_pos c1]
      rw [hhe.out, e]; rfl
    subst hRf
    generalize errL y1.f = z at *
    go_wp2
    exact bodyPost_ret (v := .tuple #[.slice none 0 0, .int .i64 0, .int .i64 70]) (by simp [results, Try.results42, go_sem]) rfl ⟨HK1.out, none, 0, 0, 0, rfl, fun h => absurd h (by decide)⟩
end Go.Proofs.Ytoohomfnbkdhfaa
