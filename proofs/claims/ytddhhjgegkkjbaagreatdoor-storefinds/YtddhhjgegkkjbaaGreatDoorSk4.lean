/-
  WALK: (*store.Store).Put, of a blob's encoding.
-/
import Derived.Test.YtddhhjgegkkjbaaGreatDoorSk3
import Derived.Test.YtddhhjgegkkjbaaGreatDoorPb0
import Derived.Deep.RegionHeld
namespace Go.Proofs.YtddhhjgegkkjbaaGreatDoor
open Go.RowKit Go.WideMaps

theorem takeP {P : Program} {ops : Array Oper} {Q : Exit → Act → World → Prop} {md : Region.Mode} {S : World → Prop} (i : Nat) {oi : Oper} {v : Value} (d : Option Tmp) {fuel : Nat} {listed : Array Bool} (listed' : Array Bool) {a : Act} {w : World} (hi : ops[i]? = some oi) (hd : oi.dst = d) (hl : listed.setIfInBounds i true = listed')
    (hs : Region.noSelect ops = true) (hf : Region.free md ops listed i = true) (hr : (Region.ready md ops listed).contains i = true)
    (hQ : ∀ c a w, Q (.panic c) (a.put d v) w → Q (.panic c) a w) (hy : YieldsIf P ops S oi v a) (hS : S w) (h : wpAnyH P md ops Q S fuel listed' (a.put d v) w) : wpAnyH P md ops Q S (fuel + 1) listed a w := by
  subst hd hl
  exact wpAnyH_take hi hs hf hr hQ hy hS h
theorem Kept.then' {S : List Nat} {a b c : World} (h : Kept S a b) (k : Kept [] b c) : Kept S a c := h.trans k (fun _ hx => by cases hx)
theorem Kept.then'' {S : List Nat} {a b c : World} (h : Kept S a b) (k : Kept S b c) : Kept S a c := h.trans k (fun _ hx => Or.inl hx)
theorem wpList_store_newS {ops : Array Oper} {rest : List Oper} {o : Oper} {a : Act} {Q : Exit → Act → World → Prop} (hgd : o.guard = none) (ty : TypeId) (x y : Operand) (ho : o.op = .store ty x y) (w0 : World) (old cells : Array Value)
    (hx : a.eval x = .pointer (some ⟨w0.heap.size, 0, none⟩)) (hy : a.eval y = .agg cells) (hi : (Tryz.prog.info? ty).map (·.size) = some cells.size) (hold : old.size = cells.size) (h1 : cells.all (·.oneCell') = true)
    (h : wpList Tryz.prog ops Q rest (a.put o.dst undef) (w0.alloc (.cells cells ty))) : wpList Tryz.prog ops Q (o :: rest) a (w0.alloc (.cells old ty)) := by
  refine wpList_store_row hgd ty x y ho w0.heap.size cells hx hy ty old (heap_alloc_new w0 _) hi hold h1 ?_
  rw [World.setRow_alloc_new]
  exact h

theorem slD_inj {g m c g' m' c' : Nat} (h : slD g m c = slD g' m' c') : g = g' ∧ m = m' ∧ c = c' := by
  simp only [slD, DataW.agg.injEq, List.cons.injEq, DataW.lit.injEq, Lit.int.injEq, and_true, true_and] at h
  omega
theorem St.keepR {w w' : World} {s b n r : Nat} {D : DataW Unit} (h : St w s b n D) (k : Kept [r] w w') (hs : s ≠ r) (hb : b ≠ r) (hl : ∀ kl g m c, Maps.has D kl = true → D.atKey kl .nil = slD g m c → g ≠ r ∨ m = 0) : St w' s b n D := by
  obtain ⟨es, clock, hh, rest⟩ := h.own
  refine ⟨k.heap h.blk (by simp; exact hs), ⟨es, clock, k.heap hh (by simp; exact hb), rest⟩, h.ne, fun kl hk => ?_⟩
  obtain ⟨g, c, xs, h1, h2, h3, h4, h5⟩ := h.lists kl hk
  refine ⟨g, c, xs, h1, h2, h3, h4, h5.kept' k (fun hne x hx hm => ?_)⟩
  obtain rfl : g = x := by simpa [blkOf] using hx
  rcases hl kl g _ c hk h1 with e | e
  · exact e (by simpa using hm)
  · exact hne (List.eq_nil_of_length_eq_zero e)
theorem St.below {w : World} {s b n : Nat} {D : DataW Unit} (h : St w s b n D) {r : Nat} (hr : w.heap.size ≤ r) : ∀ kl g m c, Maps.has D kl = true → D.atKey kl .nil = slD g m c → g ≠ r ∨ m = 0 := fun kl g m c hk he => by
  obtain ⟨g', c', xs, h1, _, _, _, h5⟩ := h.lists kl hk
  obtain ⟨rfl, rfl, rfl⟩ := slD_inj (he.symm.trans h1)
  by_cases hne : xs = []
  · exact Or.inr (by rw [hne]; rfl)
  · refine Or.inl ?_
    obtain ⟨ao, cap, hv, _, _, hc⟩ := h5
    obtain ⟨b', off, hb, hcell⟩ := hc hne
    injection hv with e1 e2 e3
    rw [← e1] at hb
    injection hb with hb
    injection hb with hb1 hb2 hb3
    obtain ⟨x, r', rfl⟩ : ∃ x r', xs = x :: r' := by cases xs with | nil => exact absurd rfl hne | cons x r' => exact ⟨x, r', rfl⟩
    have := World.block_lt_of_cell? w _ (hcell 0 x rfl)
    have h3 : b' < w.heap.size := this
    omega

/-- What Put leaves. -/
structure PutA (w : World) (s b n : Nat) (D : DataW Unit) (xs : List Int) (e : Ending) (w' : World) : Prop where
  there : Maps.has D (idKey (digL xs)) = true → ∃ z er, e = .returned (.tuple #[.agg (idC z), .bool false, .int .i64 er]) ∧ z.length = 32 ∧ (er = 0 ∨ er = 45) ∧ St w' s b n D ∧ Kept [] w w'
  full : Maps.has D (idKey (digL xs)) = false → 8192 ≤ Maps.size D → ∃ z, e = .returned (.tuple #[.agg (idC z), .bool false, .int .i64 44]) ∧ z.length = 32 ∧ St w' s b n D ∧ Kept [] w w'
  new : Maps.has D (idKey (digL xs)) = false → Maps.size D < 8192 → ∃ g c, e = .returned (.tuple #[.agg (idC (digL xs)), .bool true, .int .i64 0]) ∧ St w' s b (n + 1) (D.put (idKey (digL xs)) (slD g xs.length c)) ∧ BytesAt w' (.slice (some ⟨g, 0, none⟩) xs.length c) xs ∧ Kept [b] w w'

set_option maxRecDepth 100000 in
set_option maxHeartbeats 8000000 in
theorem Put_st {w : World} {s b n : Nat} {D : DataW Unit} (h : St w s b n D) (hn : n ≤ 1000000) (vb vo cap : Nat) (xs ys : List Int) (hx : xs = 1 :: ys) (hv : BytesAt w (.slice (some ⟨vb, vo, none⟩) xs.length cap) xs) (hvb : vb ≠ b) (ho : Octs xs) (hl : xs.length ≤ 65536) (hV : Vars w) :
    Calls Tryz.prog 11 #[.pointer (some ⟨s, 0, none⟩), .slice (some ⟨vb, vo, none⟩) xs.length cap] w (PutA w s b n D xs) := by
  have hgd : GoodID (digL xs) := ⟨digL_len xs, digL_octs xs⟩
  have hne : xs ≠ [] := by rw [hx]; simp
  obtain ⟨w0, hw0⟩ : ∃ w0, w0 = w.alloc (.cells (idC zid) 36) := ⟨_, rfl⟩
  have k0 : Kept [] w w0 := by rw [hw0]; exact (Kept.refl _ _).alloc _
  have HW0 : Hid (w0 = w.alloc (.cells (idC zid) 36)) := hw0
  have HK0 : Hid (Kept [] w w0) := k0
  have HI0 : Hid (∀ W, Kept [b] w0 W → W.heap[w.heap.size]? = some (.cells (idC zid) 36 (0, 0))) := fun W k => k.heap (show w0.heap[w.heap.size]? = _ by rw [hw0]; exact heap_alloc_new w _) (by have := h.lt.2; simp; omega)
  have hpar := parseP (.slice (some ⟨vb, vo, none⟩) xs.length cap) xs ys w0 hx (hv.kept' k0 (fun _ _ _ => by simp)) ho hl
  have HID : Hid (∀ W, Kept [] w W → Calls Tryz.prog 9 #[.slice (some ⟨vb, vo, none⟩) xs.length cap] W fun e w' => e = .returned (.agg (idC (digL xs))) ∧ Kept [] W w') := fun W k => Id_any _ xs W (hV.kept k (by simp) (by simp)) (hv.kept' k (fun _ _ _ => by simp)) ho (by omega)
  have HST : Hid (∀ W, Kept [] w W → St W s b n D) := fun W k => h.on k
  have HV : Hid (∀ W, Kept [b] w W → BytesAt W (.slice (some ⟨vb, vo, none⟩) xs.length cap) xs) := fun W k => hv.kept' k (fun _ x hx hm => by
    obtain rfl : vb = x := by simpa [blkOf] using hx
    exact hvb (by simpa using hm))
  have hsb : s ≠ b := h.ne
  have hbl : b < w.heap.size := h.lt.2
  obtain ⟨lv, hlk, hlv⟩ := h.lookAll hgd
  obtain ⟨lo, lm, lc, rfl⟩ := slR_form hlv
  have HLK : Hid (∀ W, Kept [] w W → (Instr.lookup 69 (.map (some b)) (.agg (idC (digL xs))) true).run Tryz.prog W = .ok (.tuple #[.slice lo lm lc, .bool (Maps.has D (idKey (digL xs)))]) W) := hlk
  have HTH : Hid (Maps.has D (idKey (digL xs)) = true → ∀ W, Kept [] w W → ∃ us, BytesAt W (.slice lo lm lc) us) := fun hy W k => by
    obtain ⟨g, c, us, h1, _, _, _, h5⟩ := (h.on k).lists _ hy
    rw [h1] at hlv
    rw [slR_inv hlv]
    exact ⟨us, h5⟩
  have HLEN : Hid (∀ W, Kept [] w W → Calls Tryz.prog 22 #[.pointer (some ⟨s, 0, none⟩)] W fun e w' => e = .returned (.int .i64 (Maps.size D)) ∧ w' = W) := fun W k => Len_st (h.on k)
  have HBLK : Hid (∀ W, Kept [b] w W → W.cell? ⟨s, 0, none⟩ = some (.map (some b))) := fun W k => by rw [cell_of_row _ _ _ _ _ _ (k.heap h.blk (by simp; exact hsb))]; rfl
  have HPT : Hid (∀ W0, Kept [] w W0 → ∀ W g c, Kept [b] W0 W → St W s b n D → BytesAt W (.slice (some ⟨g, 0, none⟩) xs.length c) xs → g ≠ b → ∃ W', (Instr.mapUpdate 69 (.map (some b)) (.agg (idC (digL xs))) (.slice (some ⟨g, 0, none⟩) xs.length c)).run Tryz.prog W = .ok () W' ∧ St W' s b (n + 1) (D.put (idKey (digL xs)) (slD g xs.length c)) ∧ Kept [b] W W') := fun W0 _ W g c _ hst hb hg => hst.put hgd hn hg ho hl hb
  have hui := Tryz.underlying36
  have hso : (Tryz.prog.info? 36).map (·.size) = some ((digL xs).map (Value.int .u8)).length := by rw [List.length_map, digL_len]; exact Tryz.infoID
  have hsz : (Tryz.prog.info? 36).map (·.size) = some (idC (digL xs)).size := by rw [idC_size (digL_len xs)]; exact Tryz.infoID
  have hzz : (idC zid).size = (idC (digL xs)).size := by rw [idC_size (digL_len xs)]; rfl
  have hone : (idC (digL xs)).all (·.oneCell') = true := all_oneCell_toArray (map_oneCell _)
  have hzs : (Tryz.prog.info? 36).map (·.size) = some (idC zid).size := by kernel_rfl
  have hzone : (idC zid).all (·.oneCell') = true := by kernel_rfl
  have hbz : Tryz.prog.built 36 [] = some (idC zid) := by kernel_rfl
  have hsl : s < w.heap.size := h.lt.1
  have HLB : Hid (∀ kl g m c, Maps.has D kl = true → D.atKey kl .nil = slD g m c → g ≠ w.heap.size ∨ m = 0) := h.below (Nat.le_refl _)
  clear h hn hv ho hV hlk hlv hgd k0 hw0 hx
  go_enter Tryz.func11, Tryz.ntmps11
  go_wp2_with fail
  change Calls Tryz.prog 23 #[.slice (some ⟨vb, vo, none⟩) xs.length cap] (w.alloc (.cells (idC zid) 36)) _
  rw [← HW0.out]
  go_at_call 23
  refine hpar.mono ?_
  rintro e w1 ⟨q, rfl, k1⟩
  have hoz := blobRow_size q (xs.length - 1)
  have hos : (Tryz.prog.info? 61).map (·.size) = some (blobRow q (xs.length - 1)).size := by rw [hoz]; kernel_rfl
  have hoz2 : Tryz.zeroCells61.size = (blobRow q (xs.length - 1)).size := by rw [hoz]; kernel_rfl
  have hpo := blobRow_one q (xs.length - 1)
  obtain ⟨w2, hw2⟩ : ∃ w2, w2 = w1.alloc (.cells (blobRow q (xs.length - 1)) 61) := ⟨_, rfl⟩
  have HW2 : Hid (w2 = w1.alloc (.cells (blobRow q (xs.length - 1)) 61)) := hw2
  have k2 : Kept [] w0 w2 := by rw [hw2]; exact k1.alloc _
  have HK2 : Hid (Kept [] w w2) := HK0.out.then k2
  have HK02 : Hid (Kept [] w0 w2) := k2
  have hid := HID.out w2 HK2.out
  clear hpar k1 k2 hw2 hoz
  generalize blobRow q (xs.length - 1) = br at *
  go_wp2_with (first
    | (refine wpList_store_newS (by rfl) 61 (.tmp 7) (.tmp 15) (by rfl) w1 _ br (by rfl) (by rfl) hos hoz2 hpo ?_; rw [← HW2.out]))
  go_at_call 9
  refine hid.mono ?_
  rintro e w3 ⟨rfl, k3⟩
  obtain ⟨w4, hw4⟩ : ∃ w4, w4 = w3.alloc (.cells (idC (digL xs)) 36) := ⟨_, rfl⟩
  have HW4 : Hid (w4 = w3.alloc (.cells (idC (digL xs)) 36)) := hw4
  have k34 : Kept [] w3 w4 := by rw [hw4]; exact (Kept.refl _ _).alloc _
  have HK04 : Hid (Kept [] w0 w4) := HK02.out.then (k3.then k34)
  have HK4 : Hid (Kept [] w w4) := HK2.out.then (k3.then k34)
  have hw3b : b < w3.heap.size := by have := (HK2.out.then k3).size; omega
  have HRow : Hid (∀ W, Kept [b] w4 W → W.heap[w3.heap.size]? = some (.cells ((digL xs).map (Value.int .u8)).toArray 36 (0, 0))) := fun W k => k.heap (show w4.heap[w3.heap.size]? = _ by rw [hw4]; exact heap_alloc_new w3 _) (by simp; omega)
  have HR5 : Hid (∀ W, Kept [] w4 W → W.rangeAt w3.heap.size 0 ((digL xs).map (Value.int .u8))) := fun W k => row_rangeS (HRow.out W (k.more (by simp)))
  have HB5 : Hid (∀ W, Kept [] w4 W → W.cell? ⟨s, 0, none⟩ = some (.map (some b))) := fun W k => HBLK.out W ((HK4.out.then k).more (by simp))
  have HL5 : Hid (∀ W, Kept [] w4 W → (Instr.lookup 69 (.map (some b)) (.agg ((digL xs).map (Value.int .u8)).toArray) true).run Tryz.prog W = .ok (.tuple #[.slice lo lm lc, .bool (Maps.has D (idKey (digL xs)))]) W) := fun W k => HLK.out W (HK4.out.then k)
  clear hid k3 k34 hw4 HLK
  obtain ⟨R, hR⟩ : ∃ R, R = (digL xs).map (Value.int .u8) := ⟨_, rfl⟩
  have hidc : idC (digL xs) = R.toArray := by rw [hR]; rfl
  have HIDC : Hid (idC (digL xs) = R.toArray) := hidc
  rw [← hR] at HR5 HL5 HRow hso
  rw [hidc] at HW4 hsz hone hzz HPT ⊢
  clear hR hidc
  obtain ⟨hs, hhs⟩ : ∃ r, r = Maps.has D (idKey (digL xs)) := ⟨_, rfl⟩
  have HHS : Hid (hs = Maps.has D (idKey (digL xs))) := hhs
  rw [← hhs] at HL5 HTH
  clear hhs
  go_wp2_with (first
    | (refine wpList_store_newS (by rfl) 36 (.tmp 9) (.tmp 21) (by rfl) w3 _ R.toArray (by rfl) (by rfl) hsz hzz hone ?_; rw [← HW4.out]))
  refine region_quiet (Kept [] w4) (by kernel_rfl) (by kernel_rfl) (Kept.refl [] w4).drew ?_
  refine quiet_move (by rfl) (.tmp 0) rfl (.pointer (some ⟨s, 0, none⟩)) rfl ?_
  simp only [Act.put, List.setIfInBounds_toArray, List.set_cons_zero, List.set_cons_succ]
  refine quiet_val (by rfl) (.pointer (some ⟨s, 0, none⟩)) (fun W => by go_simp) ?_
  simp only [Act.put, List.setIfInBounds_toArray, List.set_cons_zero, List.set_cons_succ]
  refine quiet_val (by rfl) (.pointer (some ⟨s, 0, none⟩)) (fun W => by go_simp) ?_
  simp only [Act.put, List.setIfInBounds_toArray, List.set_cons_zero, List.set_cons_succ]
  refine valC (by rfl) (.map (some b)) (fun W hW => by have hcc := HB5.out W hW; go_simp) ?_
  simp only [Act.put, List.setIfInBounds_toArray, List.set_cons_zero, List.set_cons_succ]
  refine quiet_row (by rfl) _ _ rfl w3.heap.size 0 rfl R _ HR5.out hui rfl hso ?_
  simp only [Act.put, List.setIfInBounds_toArray, List.set_cons_zero, List.set_cons_succ]
  refine valC (by rfl) (.tuple #[.slice lo lm lc, .bool hs]) (fun W hW => by have hcc := HL5.out W hW; go_simp) ?_
  simp only [Act.put, List.setIfInBounds_toArray, List.set_cons_zero, List.set_cons_succ]
  refine quiet_move (by rfl) (.tmp 28) rfl (.tuple #[.slice lo lm lc, .bool hs]) rfl ?_
  simp only [Act.put, List.setIfInBounds_toArray, List.set_cons_zero, List.set_cons_succ]
  refine quiet_val (by rfl) (.slice lo lm lc) (fun W => by go_simp) ?_
  simp only [Act.put, List.setIfInBounds_toArray, List.set_cons_zero, List.set_cons_succ]
  refine quiet_val (by rfl) (.bool hs) (fun W => by go_simp) ?_
  simp only [Act.put, List.setIfInBounds_toArray, List.set_cons_zero, List.set_cons_succ]
  refine quiet_assign (by rfl) (.tmp 29) rfl (.slice lo lm lc) rfl ?_
  simp only [Act.put, List.setIfInBounds_toArray, List.set_cons_zero, List.set_cons_succ]
  refine quiet_assign (by rfl) (.tmp 30) rfl (.bool hs) rfl ?_
  simp only [Act.put, List.setIfInBounds_toArray, List.set_cons_zero, List.set_cons_succ]
  refine wpQuiet_nil fun w5 k5 => ?_
  have HK5 : Hid (Kept [] w4 w5) := k5
  clear k5 HR5 HB5 HL5
  have HK05 : Hid (Kept [] w0 w5) := HK04.out.then HK5.out
  have HKw5 : Hid (Kept [] w w5) := HK4.out.then HK5.out
  have HI5 : Hid (w5.heap[w.heap.size]? = some (.cells (idC zid) 36 (0, 0))) := HI0.out w5 (HK05.out.more (by simp))
  have HRow5 : Hid (w5.heap[w3.heap.size]? = some (.cells R.toArray 36 (0, 0))) := HRow.out w5 (HK5.out.more (by simp))
  have HFS : Hid (∀ cs, St (w5.setRow w.heap.size cs) s b n D ∧ Kept [] w (w5.setRow w.heap.size cs)) := fun cs => by
    refine ⟨(HST.out w5 HKw5.out).keepR (r := w.heap.size) ⟨rfl, rfl, rfl, by simp [World.setRow], fun k _ hn => setRow_other w5 _ k cs (fun e => hn (by simp [e]))⟩ (by omega) (by omega) HLB.out, kept_setRow HKw5.out (Nat.le_refl _) cs⟩
  have hz32 : zid.length = 32 := rfl
  cases hs
  case true =>
    obtain ⟨us, hus⟩ := HTH.out (by trivial) w5 HKw5.out
    have heq := Equal_any (.slice lo lm lc) (.slice (some ⟨vb, vo, none⟩) xs.length cap) us xs w5 hus (HV.out w5 (HKw5.out.more (by simp)))
    have HPA : Hid (∀ e w' z er, e = .returned (.tuple #[.agg (idC z), .bool false, .int .i64 er]) → z.length = 32 → (er = 0 ∨ er = 45) → St w' s b n D → Kept [] w w' → PutA w s b n D xs e w') := fun e w' z er h1 h2 h3 h4 h5 => ⟨fun _ => ⟨z, er, h1, h2, h3, h4, h5⟩, (fun hf => by rw [← HHS.out] at hf; cases hf), (fun hf => by rw [← HHS.out] at hf; cases hf)⟩
    clear hus
    go_wp2_with fail
    go_at_call 28
    refine heq.mono ?_
    rintro e w6 ⟨⟨r, rfl⟩, hw6⟩
    subst w6
    clear heq
    cases r
    case false =>
      go_wp2_with (first
        | (refine wpList_build_someP (by rfl) 36 _ (by rfl) (idC zid) (by simp; exact hbz) ?_)
        | (refine wpList_store_row (by rfl) 36 (.tmp 4) (.tmp 36) (by rfl) w.heap.size (idC zid) (by rfl) (by rfl) 36 _ HI5.out hzs rfl hzone ?_))
      refine bodyPost_ret (v := .tuple #[.agg (idC zid), .bool false, .int .i64 45]) ?_ rfl (HPA.out _ _ zid 45 rfl hz32 (Or.inr rfl) (HFS.out _).1 (HFS.out _).2)
      have hld := run_loadVar_row (P := Tryz.prog) _ w.heap.size 36 36 (idC zid) (0, 0) _ (setRow_heap _ _ (idC zid) _ _ _ HI5.out) hui rfl hzs
      simp [results, Tryz.results11, asAddr, Result.andThen, hld]
    case true =>
      go_wp2_with (first
        | (refine wpList_load_row (by rfl) 36 (.tmp 9) (by rfl) w3.heap.size (by rfl) 36 R.toArray (0, 0) _ HRow5.out hui rfl hsz ?_)
        | (refine wpList_store_row (by rfl) 36 (.tmp 4) (.tmp 37) (by rfl) w.heap.size R.toArray (by rfl) (by rfl) 36 _ HI5.out hsz hzz hone ?_))
      refine bodyPost_ret (v := .tuple #[.agg R.toArray, .bool false, .int .i64 0]) ?_ rfl (HPA.out _ _ (digL xs) 0 (by rw [HIDC.out]) (digL_len xs) (Or.inl rfl) (HFS.out _).1 (HFS.out _).2)
      have hld := run_loadVar_row (P := Tryz.prog) _ w.heap.size 36 36 R.toArray (0, 0) _ (setRow_heap _ _ _ R.toArray _ _ HI5.out) hui rfl hsz
      simp [results, Tryz.results11, asAddr, Result.andThen, hld]
  case false =>
    have hlen := HLEN.out w5 HKw5.out
    go_wp2_with fail
    go_at_call 22
    refine hlen.mono ?_
    rintro e w6 ⟨rfl, hw6⟩
    subst w6
    clear hlen
    by_cases hfull : 8192 ≤ Maps.size D
    · have tf : decide (8192 ≤ ((Maps.size D : Nat) : Int)) = true := decide_eq_true (by omega)
      have HPA : Hid (∀ e w' z, e = .returned (.tuple #[.agg (idC z), .bool false, .int .i64 44]) → z.length = 32 → St w' s b n D → Kept [] w w' → PutA w s b n D xs e w') := fun e w' z h1 h2 h4 h5 => ⟨(fun hf => by rw [← HHS.out] at hf; cases hf), fun _ _ => ⟨z, h1, h2, h4, h5⟩, fun _ hf => by omega⟩
      clear hfull
      go_wp2_with (first
        | (refine wpList_build_someP (by rfl) 36 _ (by rfl) (idC zid) (by simp; exact hbz) ?_)
        | (refine wpList_store_row (by rfl) 36 (.tmp 4) (.tmp 41) (by rfl) w.heap.size (idC zid) (by rfl) (by rfl) 36 _ HI5.out hzs rfl hzone ?_))
      refine bodyPost_ret (v := .tuple #[.agg (idC zid), .bool false, .int .i64 44]) ?_ rfl (HPA.out _ _ zid rfl hz32 (HFS.out _).1 (HFS.out _).2)
      have hld := run_loadVar_row (P := Tryz.prog) _ w.heap.size 36 36 (idC zid) (0, 0) _ (setRow_heap _ _ (idC zid) _ _ _ HI5.out) hui rfl hzs
      simp [results, Tryz.results11, asAddr, Result.andThen, hld]
    · have tf : decide (8192 ≤ ((Maps.size D : Nat) : Int)) = false := decide_eq_false (by omega)
      have hb5 : w.heap.size < w5.heap.size := (Array.getElem?_eq_some_iff.1 HI5.out).1
      have HB6 : Hid (∀ W, Kept [b] w5 W → W.cell? ⟨s, 0, none⟩ = some (.map (some b))) := fun W k => HBLK.out W ((HKw5.out.more (by simp)).then'' k)
      have HR6 : Hid (∀ W, Kept [b] w5 W → W.rangeAt w3.heap.size 0 R) := fun W k => row_rangeS (HRow.out W ((HK5.out.more (by simp)).then'' k))
      have HCL : Hid (∀ W, Kept [b] w5 W → Calls Tryz.prog 26 #[.slice (some ⟨vb, vo, none⟩) xs.length cap] W fun e w' => ∃ g c, e = .returned (.slice (some ⟨g, 0, none⟩) xs.length c) ∧ BytesAt w' (.slice (some ⟨g, 0, none⟩) xs.length c) xs ∧ W.heap.size ≤ g ∧ Kept [] W w') := fun W k => Clone_any ⟨vb, vo, none⟩ cap xs W (HV.out W ((HKw5.out.more (by simp)).then'' k)) hne (by omega)
      have HPUT : Hid (∀ W g c, Kept [] w5 W → BytesAt W (.slice (some ⟨g, 0, none⟩) xs.length c) xs → w5.heap.size ≤ g → ∃ W', (Instr.mapUpdate 69 (.map (some b)) (.agg R.toArray) (.slice (some ⟨g, 0, none⟩) xs.length c)).run Tryz.prog W = .ok () W' ∧ St W' s b (n + 1) (D.put (idKey (digL xs)) (slD g xs.length c)) ∧ Kept [b] W W') := fun W g c k hb hg => HPT.out w5 HKw5.out W g c (k.more (by simp)) (HST.out W (HKw5.out.then k)) hb (by omega)
      have HPA : Hid (∀ e w' g c, e = .returned (.tuple #[.agg (idC (digL xs)), .bool true, .int .i64 0]) → St w' s b (n + 1) (D.put (idKey (digL xs)) (slD g xs.length c)) → BytesAt w' (.slice (some ⟨g, 0, none⟩) xs.length c) xs → Kept [b] w w' → PutA w s b n D xs e w') := fun e w' g c h1 h2 h3 h4 => ⟨(fun hf => by rw [← HHS.out] at hf; cases hf), (fun _ hf => by omega), fun _ _ => ⟨g, c, h1, h2, h3, h4⟩⟩
      go_wp2_with fail
      refine wp_region_held_drew (S := Kept [b] w5) (by kernel_rfl) (Kept.refl [b] w5).drew (fun hHeld => ?_)
      refine takeP 0 (v := .pointer (some ⟨s, 0, none⟩)) (some 42) #[true, false, false, false, false, false, false, false] rfl rfl rfl (by kernel_rfl) (by kernel_rfl) (by kernel_rfl) (fun _ _ _ h => h) (Or.inl ⟨by rfl, fun W hSW => by go_simp⟩) hHeld ?_
      simp only [Act.put, List.setIfInBounds_toArray, List.set_cons_zero, List.set_cons_succ]
      refine takeP 1 (v := .pointer (some ⟨s, 0, none⟩)) (some 43) #[true, true, false, false, false, false, false, false] rfl rfl rfl (by kernel_rfl) (by kernel_rfl) (by kernel_rfl) (fun _ _ _ h => h) (Or.inl ⟨by rfl, fun W hSW => by go_simp⟩) hHeld ?_
      simp only [Act.put, List.setIfInBounds_toArray, List.set_cons_zero, List.set_cons_succ]
      refine takeP 2 (v := .pointer (some ⟨s, 0, none⟩)) (some 44) #[true, true, true, false, false, false, false, false] rfl rfl rfl (by kernel_rfl) (by kernel_rfl) (by kernel_rfl) (fun _ _ _ h => h) (Or.inl ⟨by rfl, fun W hSW => by go_simp⟩) hHeld ?_
      simp only [Act.put, List.setIfInBounds_toArray, List.set_cons_zero, List.set_cons_succ]
      refine takeP 3 (v := .map (some b)) (some 45) #[true, true, true, true, false, false, false, false] rfl rfl rfl (by kernel_rfl) (by kernel_rfl) (by kernel_rfl) (fun _ _ _ h => h) (Or.inl ⟨by rfl, fun W hSW => by have hcc := HB6.out W hSW; go_simp⟩) hHeld ?_
      simp only [Act.put, List.setIfInBounds_toArray, List.set_cons_zero, List.set_cons_succ]
      refine takeP 4 (v := .agg R.toArray) (some 46) #[true, true, true, true, true, false, false, false] rfl rfl rfl (by kernel_rfl) (by kernel_rfl) (by kernel_rfl) (fun _ _ _ h => h) (yieldsIf_load_mid (by rfl) 36 (.tmp 9) rfl w3.heap.size 0 rfl R _ HR6.out hui rfl hso) hHeld ?_
      simp only [Act.put, List.setIfInBounds_toArray, List.set_cons_zero, List.set_cons_succ]
      refine takeP 5 (v := .slice (some ⟨vb, vo, none⟩) xs.length cap) (some 47) #[true, true, true, true, true, true, false, false] rfl rfl rfl (by kernel_rfl) (by kernel_rfl) (by kernel_rfl) (fun _ _ _ h => h) (Or.inl ⟨by rfl, fun W hSW => by go_simp⟩) hHeld ?_
      simp only [Act.put, List.setIfInBounds_toArray, List.set_cons_zero, List.set_cons_succ]
      refine wpAnyH_ready (rs := [6]) (by kernel_rfl) (by simp) (AllReadyH.cons rfl (fun K hK => ?_) AllReadyH.nil)
      rw [if_pos (by rfl)]
      go_simp
      refine (HCL.out _ hHeld).mono ?_
      rintro e w7 ⟨g, c, rfl, b7, hg7, k7⟩
      have kk7 : Kept [] w5 w7 := ((Kept.refl [] w5).drew).then k7
      have hgl : w5.heap.size ≤ g := hg7
      refine hK.out _ _ (hHeld.then' k7) (fun hHeld => ?_)
      clear hK K k7
      simp only [List.setIfInBounds_toArray, List.set_cons_zero, List.set_cons_succ]
      obtain ⟨w8, hrun8, hst8, k8⟩ := HPUT.out w7 g c kk7 b7 hgl
      refine wpAnyH_ready (rs := [7]) (by kernel_rfl) (by simp) (AllReadyH.cons rfl (fun K hK => ?_) AllReadyH.nil)
      rw [if_pos (by rfl)]
      go_simp
      refine hK.out _ _ (hHeld.then'' k8) (fun hHeld => ?_)
      clear hK K
      simp only [List.setIfInBounds_toArray, List.set_cons_zero, List.set_cons_succ]
      refine wpAnyH_done (by kernel_rfl) ?_ _
      have hgb : g ≠ b := by omega
      have HK8 : Hid (Kept [b] w5 w8) := (kk7.more (by simp)).then'' k8
      have HI8 : Hid (w8.heap[w.heap.size]? = some (.cells (idC zid) 36 (0, 0))) := HI0.out w8 ((HK05.out.more (by simp)).then'' HK8.out)
      have HRow8 : Hid (w8.heap[w3.heap.size]? = some (.cells R.toArray 36 (0, 0))) := HRow.out w8 ((HK5.out.more (by simp)).then'' HK8.out)
      have HB8 : Hid (BytesAt w8 (.slice (some ⟨g, 0, none⟩) xs.length c) xs) := b7.kept' k8 (fun _ x hx hm => by
        obtain rfl : g = x := by simpa [blkOf] using hx
        exact hgb (by simpa using hm))
      have HF8 : Hid (St (w8.setRow w.heap.size R.toArray) s b (n + 1) (D.put (idKey (digL xs)) (slD g xs.length c)) ∧ BytesAt (w8.setRow w.heap.size R.toArray) (.slice (some ⟨g, 0, none⟩) xs.length c) xs ∧ Kept [b] w (w8.setRow w.heap.size R.toArray)) := by
        have kr : Kept [w.heap.size] w8 (w8.setRow w.heap.size R.toArray) := ⟨rfl, rfl, rfl, by simp [World.setRow], fun k _ hn => setRow_other w8 _ k _ (fun e => hn (by simp [e]))⟩
        refine ⟨hst8.keepR kr (by omega) (by omega) (fun kl g' m' c' hk he => ?_), HB8.out.kept' kr (fun _ x hx hm => ?_), ?_⟩
        · by_cases ek : kl = idKey (digL xs)
          · subst ek
            rw [Maps.atKey_put_same (HST.out w (Kept.refl _ _)).own.isMap (idKey_lit _)] at he
            obtain ⟨rfl, _, _⟩ := slD_inj he
            exact Or.inl (by omega)
          · rw [Maps.has_put_other ek] at hk
            rw [Maps.atKey_put_other ek] at he
            exact HLB.out kl g' m' c' hk he
        · obtain rfl : g = x := by simpa [blkOf] using hx
          have : g = w.heap.size := by simpa using hm
          omega
        · exact ((HKw5.out.more (by simp)).then'' HK8.out).trans kr (fun x hx => Or.inr (by rw [List.mem_singleton.1 hx]; exact Nat.le_refl _))
      clear hHeld k8 kk7 b7 hst8 hrun8 hg7
      go_wp2_with (first
        | (refine wpList_load_row (by rfl) 36 (.tmp 9) (by rfl) w3.heap.size (by rfl) 36 R.toArray (0, 0) _ HRow8.out hui rfl hsz ?_)
        | (refine wpList_store_row (by rfl) 36 (.tmp 4) (.tmp 49) (by rfl) w.heap.size R.toArray (by rfl) (by rfl) 36 _ HI8.out hsz hzz hone ?_))
      refine bodyPost_ret (v := .tuple #[.agg R.toArray, .bool true, .int .i64 0]) ?_ rfl (HPA.out _ _ g c (by rw [HIDC.out]) HF8.out.1 HF8.out.2.1 HF8.out.2.2)
      have hld := run_loadVar_row (P := Tryz.prog) _ w.heap.size 36 36 R.toArray (0, 0) _ (setRow_heap _ _ _ R.toArray _ _ HI8.out) hui rfl hsz
      simp [results, Tryz.results11, asAddr, Result.andThen, hld]
end Go.Proofs.YtddhhjgegkkjbaaGreatDoor
