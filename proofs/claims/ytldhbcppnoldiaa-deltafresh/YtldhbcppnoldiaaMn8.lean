/-
  WALK: (*delta.maker).best, its answer told.
-/
import Derived.Test.YtldhbcppnoldiaaMn7
namespace Go.Proofs.Ytldhbcppnoldiaa
open Go.RowKit Go.WideMaps

theorem lcp_ex : ∀ xs ys : List Int, ∃ k, LcpIs xs ys k
  | [], ys => ⟨0, Nat.zero_le _, Nat.zero_le _, fun i h => absurd h (by omega), fun h => absurd h (by simp)⟩
  | x :: xs, [] => ⟨0, Nat.zero_le _, Nat.zero_le _, fun i h => absurd h (by omega), fun _ h => absurd h (by simp)⟩
  | x :: xs, y :: ys => by
    by_cases hxy : x = y
    · obtain ⟨k, h1, h2, h3, h4⟩ := lcp_ex xs ys
      refine ⟨k + 1, by simpa using h1, by simpa using h2, fun i hi => ?_, fun a b => ?_⟩
      · cases i with
        | zero => simpa using hxy
        | succ i => simpa using h3 i (by omega)
      · simpa using h4 (by simpa using a) (by simpa using b)
    · exact ⟨0, Nat.zero_le _, Nat.zero_le _, fun i h => absurd h (by omega), fun _ _ => by simpa using hxy⟩

/-- How far two texts go together. -/
def lcpN : List Int → List Int → Nat
  | x :: xs, y :: ys => if x = y then lcpN xs ys + 1 else 0
  | [], _ => 0
  | _ :: _, [] => 0
theorem lcpN_is : ∀ xs ys : List Int, LcpIs xs ys (lcpN xs ys)
  | [], ys => ⟨Nat.zero_le _, Nat.zero_le _, fun i h => absurd h (by simp [lcpN]), fun h => absurd h (by simp [lcpN])⟩
  | x :: xs, [] => ⟨Nat.zero_le _, Nat.zero_le _, fun i h => absurd h (by simp [lcpN]), fun _ h => absurd h (by simp [lcpN])⟩
  | x :: xs, y :: ys => by
    by_cases hxy : x = y
    · obtain ⟨h1, h2, h3, h4⟩ := lcpN_is xs ys
      have e : lcpN (x :: xs) (y :: ys) = lcpN xs ys + 1 := by simp [lcpN, hxy]
      rw [e]
      refine ⟨by simpa using h1, by simpa using h2, fun i hi => ?_, fun a b => ?_⟩
      · cases i with
        | zero => simpa using hxy
        | succ i => simpa using h3 i (by omega)
      · simpa using h4 (by simpa using a) (by simpa using b)
    · have e : lcpN (x :: xs) (y :: ys) = 0 := by simp [lcpN, hxy]
      rw [e]
      exact ⟨Nat.zero_le _, Nat.zero_le _, fun i h => absurd h (by omega), fun _ _ => by simpa using hxy⟩
/-- What best has come to: the most that is gained, the next place, the stretch. -/
structure BsP where
  most : Int
  place : Int
  st : Nat
  l : Nat
def bsStep (bs ts next : List Int) (T : Nat) (s : BsP) : BsP :=
  if s.place = -1 then s
  else if s.most < gainL (lcpN (bs.drop s.place.toNat) ts) s.place.toNat T then ⟨gainL (lcpN (bs.drop s.place.toNat) ts) s.place.toNat T, next.getD s.place.toNat 0, s.place.toNat, lcpN (bs.drop s.place.toNat) ts⟩
  else ⟨s.most, next.getD s.place.toNat 0, s.st, s.l⟩
def bsAt (bs ts : List Int) (S : DataW Unit × List Int) (T : Nat) : Nat → BsP
  | 0 => ⟨0, findD S.1 ts, 0, 0⟩
  | j + 1 => bsStep bs ts S.2 T (bsAt bs ts S T j)
def bestL (bs ts : List Int) (S : DataW Unit × List Int) (T : Nat) : BsP := bsAt bs ts S T 32
theorem bsAt_stop {bs ts : List Int} {S : DataW Unit × List Int} {T j : Nat} (h : (bsAt bs ts S T j).place = -1) : ∀ d, bsAt bs ts S T (j + d) = bsAt bs ts S T j
  | 0 => rfl
  | d + 1 => by
    show bsStep bs ts S.2 T (bsAt bs ts S T (j + d)) = _
    rw [bsAt_stop h d]
    unfold bsStep
    rw [if_pos h]

/-- A stretch of the base with which a text begins, and that gains; or none. -/
def GoodSt (bs ts : List Int) (T st l : Nat) (most : Int) : Prop :=
  (l = 0 ∧ st = 0 ∧ most = 0) ∨ (0 < l ∧ st + l ≤ bs.length ∧ l ≤ ts.length ∧ (bs.drop st).take l = ts.take l ∧ gainL l st T = most ∧ 0 < most)
theorem good_of {bs ts : List Int} {T st l : Nat} (hst : st ≤ bs.length) (hl : LcpIs (bs.drop st) ts l) (hg : 0 < gainL l st T) : GoodSt bs ts T st l (gainL l st T) := by
  have h1 := hl.a
  rw [List.length_drop] at h1
  have h2 : 0 < l := by
    rcases Nat.eq_zero_or_pos l with e | e
    · subst e
      unfold gainL at hg
      have := wd_pos (2 * 0 + 1)
      omega
    · exact e
  exact Or.inr ⟨h2, by omega, hl.b, hl.take, rfl, hg⟩

structure BsSt (w W : World) (xb rb bb b nb N st l : Nat) : Prop where
  kept : Kept [] w W
  xbox : W.heap[xb]? = some (.cells #[.map (some b), .slice (some ⟨nb, 0, none⟩) N N] 130 (0, 0))
  rbox : W.heap[rb]? = some (.cells #[.int .i64 0, .int .i64 0] 127 (0, 0))
  bbox : W.heap[bb]? = some (.cells #[.int .i64 st, .int .i64 l] 127 (0, 0))
  b0 : w.heap.size ≤ xb
  b1 : xb < rb
  b2 : rb < bb
theorem BsSt.on {w W W' : World} {xb rb bb b nb N st l : Nat} (P : BsSt w W xb rb bb b nb N st l) (k : Kept [] W W') : BsSt w W' xb rb bb b nb N st l :=
  ⟨P.kept.then k, k.heap P.xbox (by simp), k.heap P.rbox (by simp), k.heap P.bbox (by simp), P.b0, P.b1, P.b2⟩
theorem BsSt.set {w W : World} {xb rb bb b nb N st l : Nat} (P : BsSt w W xb rb bb b nb N st l) (st' l' : Nat) : BsSt w ((W.setCell ⟨bb, 0, none⟩ (.int .i64 st')).setCell ⟨bb, 1, none⟩ (.int .i64 l')) xb rb bb b nb N st' l' := by
  have k : Kept [bb] W ((W.setCell ⟨bb, 0, none⟩ (.int .i64 st')).setCell ⟨bb, 1, none⟩ (.int .i64 l')) := ((Kept.refl [bb] W).setCell (p := ⟨bb, 0, none⟩) (Or.inl (by simp)) _).setCell (p := ⟨bb, 1, none⟩) (Or.inl (by simp)) _
  obtain ⟨p1, p2, p3, p4, b0, b1, b2⟩ := P
  refine ⟨p1.trans k (by simp; omega), k.heap p2 (by simp; omega), k.heap p3 (by simp; omega), ?_, b0, b1, b2⟩
  exact heap_setCell_same _ _ _ _ _ _ (heap_setCell_same _ _ _ _ _ _ p4)

structure BestTo (w w' : World) (bs ts : List Int) (S : DataW Unit × List Int) (T : Nat) (e : Ending) : Prop where
  kept : Kept [] w w'
  ends : ∃ (st l : Nat) (most : Int), e = .returned (.agg #[.int .i64 st, .int .i64 l]) ∧ GoodSt bs ts T st l most ∧ st = (bestL bs ts S T).st ∧ l = (bestL bs ts S T).l

set_option maxRecDepth 100000 in
set_option maxHeartbeats 4000000 in
theorem best_any {w : World} {mb wb b nb : Nat} {ab at' ao : Option Addr} {cb ct cap T : Nat} {bs ts : List Int} {D : DataW Unit} {nx : List Int} (hm : MkrIs w mb (.slice ab bs.length cb) (.slice at' T ct) wb) (hb : BytesAt w (.slice ab bs.length cb) bs) (hsb : bs.length ≤ 65536)
    (hi : IdxMap w b bs.length D) (hn : NextAt w nb bs.length nx) (ht : BytesAt w (.slice ao ts.length cap) ts) (hot : Octs ts) (hst : ts.length ≤ 65536) (hT : T ≤ 65536) :
    Calls Try.prog 90 #[.pointer (some ⟨mb, 0, none⟩), .agg #[.map (some b), .slice (some ⟨nb, 0, none⟩) bs.length bs.length], .slice ao ts.length cap] w fun e w' => BestTo w w' bs ts (D, nx) T e := by
  have HM : Hid (∀ W, Kept [] w W → MkrIs W mb (.slice ab bs.length cb) (.slice at' T ct) wb) := fun W k => k.heap hm (by simp)
  have HB : Hid (∀ W, Kept [] w W → BytesAt W (.slice ab bs.length cb) bs) := fun W k => hb.kept k (fun _ _ => by simp)
  have HT : Hid (∀ W, Kept [] w W → BytesAt W (.slice ao ts.length cap) ts) := fun W k => ht.kept k (fun _ _ => by simp)
  have HN : Hid (∀ W, Kept [] w W → NextAt W nb bs.length nx) := fun W k => hn.kept k (by simp)
  have HNB : Hid (nb < w.heap.size) := by
    obtain ⟨_, _, h3⟩ := hn
    exact lt_of_block h3
  have k0 : Kept [] w (((w.alloc (.cells #[.map (some b), .slice (some ⟨nb, 0, none⟩) bs.length bs.length] 130)).alloc (.cells #[.int .i64 0, .int .i64 0] 127)).alloc (.cells #[.int .i64 0, .int .i64 0] 127)) := (((Kept.refl [] w).alloc _).alloc _).alloc _
  have P0 : BsSt w (((w.alloc (.cells #[.map (some b), .slice (some ⟨nb, 0, none⟩) bs.length bs.length] 130)).alloc (.cells #[.int .i64 0, .int .i64 0] 127)).alloc (.cells #[.int .i64 0, .int .i64 0] 127)) w.heap.size (w.heap.size + 1) (w.heap.size + 1 + 1) b nb bs.length 0 0 := by
    have k1 : ∀ (W : World) (o : Obj), Kept [] W (W.alloc o) := fun W o => (Kept.refl _ _).alloc o
    refine ⟨k0, ((k1 _ _).then (k1 _ _)).heap (heap_alloc_new w _) (by simp), ?_, ?_, Nat.le_refl _, by omega, by omega⟩
    · have h1 := heap_alloc_new (w.alloc (.cells #[.map (some b), .slice (some ⟨nb, 0, none⟩) bs.length bs.length] 130)) (.cells #[.int .i64 0, .int .i64 0] 127)
      rw [World.size_alloc] at h1
      exact (k1 _ _).heap h1 (by simp)
    · have h1 := heap_alloc_new ((w.alloc (.cells #[.map (some b), .slice (some ⟨nb, 0, none⟩) bs.length bs.length] 130)).alloc (.cells #[.int .i64 0, .int .i64 0] 127)) (.cells #[.int .i64 0, .int .i64 0] 127)
      rw [World.size_alloc, World.size_alloc] at h1
      exact h1
  have hf := find_any (N := bs.length) (an := some ⟨nb, 0, none⟩) (nn := bs.length) (cn := bs.length) (hi.kept k0 (by simp)) (HT.out _ k0) hot
  have HFd : Hid (findD D ts = -1 ∨ (0 ≤ findD D ts ∧ findD D ts < bs.length)) := hi.found hot
  obtain ⟨r, hr⟩ : ∃ r, findD D ts = r := ⟨_, rfl⟩
  have HRR : Hid (findD D ts = r) := hr
  clear hr
  have HP0 : Hid _ := P0
  clear hm hb hi hn ht P0 k0
  go_enter Try.func90, Try.ntmps90
  go_wp2_with fail
  go_at_call 109
  refine hf.mono ?_
  rintro e w1 ⟨k1, he⟩
  rw [HRR.out] at he
  subst he
  have HP1 : Hid _ := HP0.out.on k1
  have HR : Hid (r = -1 ∨ (0 ≤ r ∧ r < bs.length)) := (by have h := HFd.out; rw [HRR.out] at h; exact h)
  clear hf k1 HP0 HFd
  generalize w.heap.size + 1 + 1 = bb at *
  generalize w.heap.size + 1 = rb at *
  have hcutA : ∀ (ao : Option Addr) (cap lo : Nat), (if cap = lo then ao else Option.map (fun x => x.add lo) ao) = cutA ao cap lo := fun _ _ _ => rfl
  go_wp2
  go_loopw [8, 9, 10, 11, 15] (fun s8 s9 _ _ s15 wr => ∃ (most place : Int) (j st l : Nat), s8 = .int .i64 most ∧ s9 = .int .i64 place ∧ s15 = .int .i64 j ∧ j ≤ 32 ∧ Hid ((place = -1 ∨ (0 ≤ place ∧ place < bs.length)) ∧ BsSt w wr w.heap.size rb bb b nb bs.length st l ∧ GoodSt bs ts T st l most ∧ bsAt bs ts (D, nx) T j = ⟨most, place, st, l⟩)) (fun _ _ _ _ s15 _ => 32 - (intOf s15).toNat)
  case atStart => exact ⟨0, r, 0, 0, 0, rfl, rfl, rfl, by omega, HR.out, HP1.out, Or.inl ⟨rfl, rfl, rfl⟩, by rw [← HRR.out]; rfl⟩
  case round =>
    clear HP1 HR
    obtain ⟨most, place, j, st, l, rfl, rfl, rfl, hj, HS⟩ := hrel
    have HPl : Hid (place = -1 ∨ (0 ≤ place ∧ place < bs.length)) := HS.out.1
    have HP : Hid (BsSt w wr w.heap.size rb bb b nb bs.length st l) := HS.out.2.1
    have HGs : Hid (GoodSt bs ts T st l most) := HS.out.2.2.1
    have HAt : Hid (bsAt bs ts (D, nx) T j = ⟨most, place, st, l⟩) := HS.out.2.2.2
    clear HS
    have HEnd : Hid (∀ W a c, W = wr → Kept [] w ((W.setCell ⟨rb, 0, none⟩ a).setCell ⟨rb, 1, none⟩ c)) := fun W a c e => by
      subst e
      have h1 := HP.out.b0
      have h2 := HP.out.b1
      exact (HP.out.kept.setCell (p := ⟨rb, 0, none⟩) (Or.inr (by show w.heap.size ≤ rb; omega)) a).setCell (p := ⟨rb, 1, none⟩) (Or.inr (by show w.heap.size ≤ rb; omega)) c
    obtain ⟨q1, q2, q3⟩ := own_facts HP.out.rbox
    obtain ⟨p1, p2, p3⟩ := own_facts HP.out.bbox
    by_cases hj2 : j < 32
    · have t1 : decide ((j : Int) < 32) = true := by simp; omega
      by_cases hpl : place = -1
      · subst hpl
        have HBe : Hid (bestL bs ts (D, nx) T = ⟨most, -1, st, l⟩) := by
          have h := bsAt_stop (bs := bs) (ts := ts) (S := (D, nx)) (T := T) (j := j) (by rw [HAt.out]) (32 - j)
          rw [show j + (32 - j) = 32 by omega, HAt.out] at h
          exact h
        go_wp2
        exact bodyPost_ret (v := .agg #[.int .i64 st, .int .i64 l]) (by simp [results, Try.results90, go_sem, q1]) rfl ⟨HEnd.out _ _ _ rfl, st, l, most, rfl, HGs.out, by rw [HBe.out], by rw [HBe.out]⟩
      · obtain ⟨k, hk⟩ : ∃ k : Nat, place = k := ⟨place.toNat, by rcases HPl.out with h | h <;> omega⟩
        subst hk
        have hkl : k < bs.length := by rcases HPl.out with h | h <;> omega
        have t2 : ((k : Int) == -1) = false := by simp
        obtain ⟨m0, hmE⟩ : ∃ m0, m0 = lcpN (bs.drop k) ts := ⟨_, rfl⟩
        have HME : Hid (m0 = lcpN (bs.drop k) ts) := hmE
        have hm0 : LcpIs (bs.drop k) ts m0 := hmE ▸ lcpN_is _ _
        clear hmE
        have HM0 : Hid (LcpIs (bs.drop k) ts m0) := hm0
        have l1 : (bs.drop k).length = bs.length - k := by simp
        have e1 := bytes_tail (HB.out _ HP.out.kept) k (by omega)
        rw [← l1] at e1
        have hal := alike_any e1 (HT.out _ HP.out.kept) (by omega) (by omega) m0 HM0
        rw [l1] at hal
        have hml := hm0.a
        rw [l1] at hml
        obtain ⟨g0, g1, g2⟩ : wr.cell? ⟨mb, 0, none⟩ = some (.slice ab bs.length cb) ∧ True ∧ True := ⟨cell_of_row _ _ _ _ _ _ (HM.out _ HP.out.kept), trivial, trivial⟩
        have i0 : (0 : Int) ≤ k := by omega
        have i1 : (k : Int) ≤ bs.length := by omega
        clear e1 hm0 q1 q2 q3 p1 p2 p3 HEnd
        go_wp2_with fail
        go_at_call 85
        refine hal.mono ?_
        rintro e w2 ⟨rfl, n2, rfl⟩
        have HP2 : Hid (BsSt w (wr.drewN n2) w.heap.size rb bb b nb bs.length st l) := HP.out.on ((Kept.refl _ _).drewN n2)
        clear hal HP g0 g1 g2
        generalize wr.drewN n2 = w2 at *
        have k3 : Kept [] w2 (w2.alloc (.cells #[.int .i64 (k : Int), .int .i64 (m0 : Int)] 127)) := (Kept.refl _ _).alloc _
        have hg := gain_any (HM.out _ (HP2.out.on k3).kept) k m0 (by omega) (by omega) hT
        go_wp2_with fail
        go_at_call 87
        refine hg.mono ?_
        rintro e w4 ⟨rfl, k4⟩
        have hsb4 := k4.heap (heap_alloc_new w2 (.cells #[.int .i64 (k : Int), .int .i64 (m0 : Int)] 127)) (by simp)
        have HP4 : Hid (BsSt w w4 w.heap.size rb bb b nb bs.length st l) := HP2.out.on (k3.then k4)
        obtain ⟨s1, s2, s3⟩ := own_facts hsb4
        obtain ⟨x1, x2, x3⟩ := own_facts HP4.out.xbox
        obtain ⟨p1, p2, p3⟩ := own_facts HP4.out.bbox
        obtain ⟨v, hvE⟩ : ∃ v, v = nx.getD k 0 := ⟨_, rfl⟩
        have HVE : Hid (v = nx.getD k 0) := hvE
        obtain ⟨hv1, hv2, hv3⟩ := (HN.out _ HP4.out.kept).cell k hkl
        rw [← hvE] at hv1 hv2
        clear hvE
        have HStep : Hid (bsAt bs ts (D, nx) T (j + 1) = if most < gainL m0 k T then ⟨gainL m0 k T, v, k, m0⟩ else ⟨most, v, st, l⟩) := by
          show bsStep bs ts nx T (bsAt bs ts (D, nx) T j) = _
          rw [HAt.out]
          unfold bsStep
          dsimp only
          rw [if_neg hpl, Int.toNat_natCast, ← HME.out, ← HVE.out]
        have HV : Hid (v = -1 ∨ (0 ≤ v ∧ v < bs.length)) := hv2
        have hneb : nb < w.heap.size := HNB.out
        have hbb : w.heap.size < bb := by have h1 := HP4.out.b0; have h2 := HP4.out.b1; have h3 := HP4.out.b2; omega
        have hneb2 : nb ≠ bb := by omega
        clear hg k4 k3 hsb4 HP2 hv2 hv3
        generalize w2.heap.size = sb at *
        by_cases hgm : most < gainL m0 k T
        · have d1 : decide (most < gainL m0 k T) = true := by simpa using hgm
          have HP5 : Hid _ := HP4.out.set k m0
          have hm0' : 0 ≤ most := by rcases HGs.out with h | h <;> omega
          have HG5 : Hid (GoodSt bs ts T k m0 (gainL m0 k T)) := good_of (by omega) HM0.out (by omega)
          clear HP4 HGs
          go_wp2
          go_roundw
          case rel => exact ⟨_, v, j + 1, k, m0, rfl, rfl, by go_num, by omega, HV.out, HP5.out, HG5.out, by rw [HStep.out, if_pos hgm]⟩
          case measure => simp [intOf]; omega
        · have d1 : decide (most < gainL m0 k T) = false := by simpa using hgm
          go_wp2
          go_roundw
          case rel => exact ⟨_, v, j + 1, st, l, rfl, rfl, by go_num, by omega, HV.out, HP4.out, HGs.out, by rw [HStep.out, if_neg (by omega)]⟩
          case measure => simp [intOf]; omega
    · have t1 : decide ((j : Int) < 32) = false := by simp; omega
      have HBe : Hid (bestL bs ts (D, nx) T = ⟨most, place, st, l⟩) := by
        have e : 32 = j := by omega
        show bsAt bs ts (D, nx) T 32 = _
        rw [e]
        exact HAt.out
      go_wp2
      exact bodyPost_ret (v := .agg #[.int .i64 st, .int .i64 l]) (by simp [results, Try.results90, go_sem, q1]) rfl ⟨HEnd.out _ _ _ rfl, st, l, most, rfl, HGs.out, by rw [HBe.out], by rw [HBe.out]⟩
end Go.Proofs.Ytldhbcppnoldiaa
