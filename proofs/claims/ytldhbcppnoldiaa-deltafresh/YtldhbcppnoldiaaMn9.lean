/-
  WALK: (*delta.maker).middle, its answer told.
-/
import Derived.Test.YtldhbcppnoldiaaMn8
import Derived.Test.YtldhbcppnoldiaaDl4
import Derived.Deep.LoopGhost
import Derived.WalkMore
namespace Go.Proofs.Ytldhbcppnoldiaa
open Go.RowKit Go.WideMaps

theorem Kept.undraw {S : List Nat} {w w1 : World} (h : Kept S w.drew w1) : Kept S w w1 := ⟨h.os, h.tape, h.output, h.size, h.block⟩

structure MdSt (w0 W : World) (mb wb xk b nb : Nat) (vb vt : Value) (zs : List Int) (S : List Nat) (bs : List Int) : Prop where
  mk' : Mkr w0 W mb wb vb vt zs S
  xbox : W.heap[xk]? = some (.cells #[.map (some b), .slice (some ⟨nb, 0, none⟩) bs.length bs.length] 130 (0, 0))
  ix : IdxMap W b bs.length (ixL bs).1
  nx : NextAt W nb bs.length (ixL bs).2
  a1 : xk ∉ S
  a2 : b ∉ S
  a3 : nb ∉ S
theorem IdxMap.lt {w : World} {b N : Nat} {D : DataW Unit} (h : IdxMap w b N D) : b < w.heap.size := by
  obtain ⟨n, ⟨es, clock, hh, _⟩, _⟩ := h
  exact lt_of_block hh
theorem NextAt.lt {w : World} {nb N : Nat} {l : List Int} (h : NextAt w nb N l) : nb < w.heap.size := by
  obtain ⟨_, _, h3⟩ := h
  exact lt_of_block h3
theorem MdSt.on {w0 W W' : World} {mb wb xk b nb : Nat} {vb vt : Value} {zs : List Int} {S : List Nat} {bs : List Int} (P : MdSt w0 W mb wb xk b nb vb vt zs S bs) (k : Kept [] W W') : MdSt w0 W' mb wb xk b nb vb vt zs S bs :=
  ⟨P.mk'.on0 k, k.heap P.xbox (by simp), P.ix.kept k (by simp), P.nx.kept k (by simp), P.a1, P.a2, P.a3⟩
theorem MdSt.wrote {w0 W W' : World} {mb wb xk b nb : Nat} {vb vt : Value} {zs zs' : List Int} {S : List Nat} {bs : List Int} (P : MdSt w0 W mb wb xk b nb vb vt zs S bs) (h : MWrote w0 W W' mb wb vb vt zs' S) :
    ∃ S', MdSt w0 W' mb wb xk b nb vb vt zs' S' bs ∧ Kept S W W' ∧ (∀ x, x ∈ S' → x ∈ S ∨ W.heap.size ≤ x) := by
  obtain ⟨S', h1, k, h2⟩ := h
  have l1 := lt_of_block P.xbox
  have l2 := P.ix.lt
  have l3 := P.nx.lt
  refine ⟨S', ⟨h1, k.heap P.xbox P.a1, P.ix.kept k P.a2, P.nx.kept k P.a3, fun hx => ?_, fun hx => ?_, fun hx => ?_⟩, k, h2⟩
  · rcases h2 _ hx with h | h
    · exact P.a1 h
    · omega
  · rcases h2 _ hx with h | h
    · exact P.a2 h
    · omega
  · rcases h2 _ hx with h | h
    · exact P.a3 h
    · omega

theorem MdSt.set {w0 V W W' : World} {mb wb xk b nb sb : Nat} {vb vt : Value} {zs : List Int} {S : List Nat} {bs : List Int} (P0 : MdSt w0 V mb wb xk b nb vb vt zs S bs) (P : MdSt w0 W mb wb xk b nb vb vt zs S bs) (hsb : V.heap.size ≤ sb) (k : Kept [sb] W W') : MdSt w0 W' mb wb xk b nb vb vt zs S bs := by
  have h1 := lt_of_block P0.mk'.box
  have h2 := lt_of_block P0.xbox
  have h3 := P0.ix.lt
  have h4 := P0.nx.lt
  have h5 := P0.mk'.wr.lt
  have h6 := P0.mk'.kept.size
  exact ⟨P.mk'.on k (by simp; omega) (fun x hx => by have := (h5 x hx).2; simp; omega) (by simp; omega), k.heap P.xbox (by simp; omega), P.ix.kept k (by simp; omega), P.nx.kept k (by simp; omega), P.a1, P.a2, P.a3⟩

def newC (t : List Int) : List Cd := if t.length = 0 then [] else [.new t]
theorem newE_encs (t : List Int) : newE t = encs (newC t) := by
  unfold newE newC
  split
  · rfl
  · simp [encs]
theorem newC_txts (bs t : List Int) : txts bs (newC t) = t := by
  unfold newC
  split
  · rename_i h
    rw [List.eq_nil_of_length_eq_zero h]; rfl
  · simp [txts, Cd.txt]
theorem newC_ok (bs t : List Int) : ∀ c, c ∈ newC t → c.ok bs := by
  unfold newC
  split
  · intro c hc; simp at hc
  · intro c hc
    rw [List.mem_singleton.1 hc]
    show 0 < t.length
    omega
theorem encs_app (a b : List Cd) : encs (a ++ b) = encs a ++ encs b := by simp [encs]
theorem txts_app (bs : List Int) (a b : List Cd) : txts bs (a ++ b) = txts bs a ++ txts bs b := by simp [txts]
theorem newE_len (t : List Int) : (newE t).length ≤ t.length + wd (2 * t.length) := by
  unfold newE
  split
  · simp
  · show (varB ((2 * t.length : Nat) : Int) ++ t).length ≤ _
    rw [List.length_append]
    unfold wd
    omega
theorem cp_len (st n : Nat) : (Cd.cp st n).enc.length = wd (2 * n + 1) + wd st := by
  show (varB ((2 * n + 1 : Nat) : Int) ++ varB (st : Int)).length = _
  rw [List.length_append]
  rfl

/-- What is written of a text so far, and what is left of it. -/
structure Part (bs tx rem : List Int) (cs : List Cd) : Prop where
  ok : ∀ c, c ∈ cs → c.ok bs
  txt : txts bs cs ++ rem = tx
  len : (encs cs).length ≤ (txts bs cs).length
theorem Part.step {bs tx rem : List Int} {cs : List Cd} (P : Part bs tx rem cs) {T j st l : Nat} {most : Int} (hg : GoodSt bs (rem.drop j) T st l most) (hl : l ≠ 0) (hj : j ≤ rem.length) (hT : T ≤ 65536) (hrT : rem.length ≤ T) :
    Part bs tx (rem.drop (j + l)) (cs ++ newC (rem.take j) ++ [.cp st l]) ∧ st + l ≤ bs.length ∧ j + l ≤ rem.length := by
  rcases hg with ⟨h, _, _⟩ | ⟨h1, h2, h3, h4, h5, h6⟩
  · exact absurd h hl
  rw [List.length_drop] at h3
  have htx : txts bs (cs ++ newC (rem.take j) ++ [.cp st l]) = txts bs cs ++ rem.take j ++ (rem.drop j).take l := by
    rw [txts_app, txts_app, newC_txts]
    have : txts bs [.cp st l] = (bs.drop st).take l := by simp [txts, Cd.txt]
    rw [this, h4]
  refine ⟨⟨fun c hc => ?_, ?_, ?_⟩, h2, by omega⟩
  · rcases List.mem_append.1 hc with h | h
    · rcases List.mem_append.1 h with h | h
      · exact P.ok c h
      · exact newC_ok _ _ c h
    · rw [List.mem_singleton.1 h]
      exact ⟨h1, h2⟩
  · rw [htx, ← P.txt, List.append_assoc, List.append_assoc]
    congr 1
    rw [← List.drop_drop, List.take_append_drop, List.take_append_drop]
  · rw [htx, encs_app, encs_app, List.length_append, List.length_append, List.length_append, List.length_append, ← newE_encs]
    have e1 := newE_len (rem.take j)
    have e2 : (encs [Cd.cp st l]).length = wd (2 * l + 1) + wd st := by
      have : encs [Cd.cp st l] = (Cd.cp st l).enc := by simp [encs]
      rw [this, cp_len]
    have e3 : (rem.take j).length = j := by rw [List.length_take]; omega
    have e4 : ((rem.drop j).take l).length = l := by rw [List.length_take, List.length_drop]; omega
    have e5 := P.len
    have e6 : wd (2 * j) ≤ wd (2 * T) := wd_mono (by omega) (by omega)
    unfold gainL at h5
    rw [e3] at e1
    rw [e2, e3, e4]
    omega

/-- Of the stretch that best finds. -/
def GoodB (bs ts : List Int) (T st l : Nat) (most : Int) : Prop := GoodSt bs ts T st l most ∧ st = (bestL bs ts (ixL bs) T).st ∧ l = (bestL bs ts (ixL bs) T).l
/-- The commands that middle writes: a, the bytes ahead that no copy has taken yet; then what is left. -/
def midF (bs : List Int) (T : Nat) : Nat → List Int → List Int → List Cd
  | 0, a, _ => newC a
  | _ + 1, a, [] => newC a
  | f + 1, a, x :: r => if (bestL bs (x :: r) (ixL bs) T).l = 0 then midF bs T f (a ++ [x]) r else newC a ++ [.cp (bestL bs (x :: r) (ixL bs) T).st (bestL bs (x :: r) (ixL bs) T).l] ++ midF bs T f [] ((x :: r).drop (bestL bs (x :: r) (ixL bs) T).l)
def midL (bs : List Int) (T : Nat) (tx : List Int) : List Cd := if tx.length < 4 then newC tx else midF bs T tx.length [] tx
def Run (bs : List Int) (T : Nat) (tx : List Int) (cs : List Cd) (a rem : List Int) : Prop := ∃ f, rem.length ≤ f ∧ midF bs T tx.length [] tx = cs ++ midF bs T f a rem
theorem Run.start (bs : List Int) (T : Nat) (tx : List Int) : Run bs T tx [] [] tx := ⟨tx.length, Nat.le_refl _, rfl⟩
theorem Run.skip {bs tx rem : List Int} {T j : Nat} {cs : List Cd} (h : Run bs T tx cs (rem.take j) (rem.drop j)) (hj : j < rem.length) (h0 : (bestL bs (rem.drop j) (ixL bs) T).l = 0) : Run bs T tx cs (rem.take (j + 1)) (rem.drop (j + 1)) := by
  obtain ⟨f, hf, he⟩ := h
  have hd : rem.drop j = rem[j] :: rem.drop (j + 1) := List.drop_eq_getElem_cons hj
  have ht : rem.take (j + 1) = rem.take j ++ [rem[j]] := by rw [List.take_add_one, List.getElem?_eq_getElem hj]; rfl
  rw [hd] at hf he h0
  rw [List.length_cons] at hf
  cases f with
  | zero => omega
  | succ f =>
    refine ⟨f, by omega, ?_⟩
    rw [he, ht]
    show cs ++ midF bs T (f + 1) _ _ = _
    rw [midF, if_pos h0]
theorem Run.copy {bs tx rem : List Int} {T j : Nat} {cs : List Cd} (h : Run bs T tx cs (rem.take j) (rem.drop j)) (hj : j < rem.length) {st l : Nat} (h0 : l ≠ 0) (h1 : st = (bestL bs (rem.drop j) (ixL bs) T).st) (h2 : l = (bestL bs (rem.drop j) (ixL bs) T).l) :
    Run bs T tx (cs ++ newC (rem.take j) ++ [.cp st l]) [] (rem.drop (j + l)) := by
  obtain ⟨f, hf, he⟩ := h
  have hd : rem.drop j = rem[j] :: rem.drop (j + 1) := List.drop_eq_getElem_cons hj
  have hl : (rem.drop j).length = rem.length - j := List.length_drop
  cases f with
  | zero => omega
  | succ f =>
    refine ⟨f, by rw [List.length_drop]; omega, ?_⟩
    have hm : midF bs T (f + 1) (rem.take j) (rem.drop j) = newC (rem.take j) ++ [.cp st l] ++ midF bs T f [] ((rem.drop j).drop l) := by
      rw [h1, h2]
      rw [h2] at h0
      rw [hd] at h0 ⊢
      rw [midF, if_neg h0]
    rw [he, hm, List.drop_drop, List.append_assoc, List.append_assoc, List.append_assoc]
theorem Run.done {bs tx rem : List Int} {T j : Nat} {cs : List Cd} (h : Run bs T tx cs (rem.take j) (rem.drop j)) (hj : j = rem.length) : midF bs T tx.length [] tx = cs ++ newC rem := by
  obtain ⟨f, hf, he⟩ := h
  rw [he, hj, List.drop_length, List.take_length]
  cases f <;> rfl
theorem Run.none {bs tx : List Int} {T : Nat} {cs : List Cd} (h : Run bs T tx cs [] []) : midF bs T tx.length [] tx = cs := by
  obtain ⟨f, hf, he⟩ := h
  rw [he]
  have e : midF bs T f [] [] = [] := by cases f <;> rfl
  rw [e, List.append_nil]

theorem bytes_head {w : World} {ao : Option Addr} {n cap : Nat} {ys : List Int} (h : BytesAt w (.slice ao n cap) ys) (j : Nat) (hj : j ≤ ys.length) : BytesAt w (.slice ao j cap) (ys.take j) := by
  obtain ⟨ao', cap', he, hc, hnil, hh⟩ := h
  injection he with e1 e2 e3
  subst e1 e2 e3
  have hl : (ys.take j).length = j := by rw [List.length_take]; omega
  refine ⟨ao, cap, by rw [hl], by omega, hnil, fun hne => ?_⟩
  obtain ⟨b, off, rfl, hc2⟩ := hh (by rintro rfl; simp at hne)
  refine ⟨b, off, rfl, fun i u hu => hc2 i u ?_⟩
  have hi : i < j := by have := (List.getElem?_eq_some_iff.1 hu).1; omega
  rwa [List.getElem?_take_of_lt hi] at hu

structure MidTo (w0 w w' : World) (mb wb : Nat) (vb vt : Value) (zs : List Int) (S : List Nat) (bs tx : List Int) (T : Nat) (e : Ending) : Prop where
  ret : e = .returned (.tuple #[])
  ends : ∃ cs, cs = midL bs T tx ∧ MWrote w0 w w' mb wb vb vt (zs ++ encs cs) S ∧ (∀ c, c ∈ cs → c.ok bs) ∧ txts bs cs = tx ∧ (encs cs).length ≤ tx.length + 3

set_option maxRecDepth 100000 in
set_option maxHeartbeats 4000000 in
theorem middle_any {w0 w : World} {mb wb : Nat} {ab at' ax : Option Addr} {cb ct cx T : Nat} {bs tx zs : List Int} {S : List Nat} (P : Mkr w0 w mb wb (.slice ab bs.length cb) (.slice at' T ct) zs S)
    (hb : BytesAt w0 (.slice ab bs.length cb) bs) (hob : Octs bs) (hsb : bs.length ≤ 65536) (hx : BytesAt w0 (.slice ax tx.length cx) tx) (hox : Octs tx) (hT : T ≤ 65536) (hxT : tx.length ≤ T) (hz : zs.length ≤ 1000) :
    Calls Try.prog 54 #[.pointer (some ⟨mb, 0, none⟩), .slice ax tx.length cx] w fun e w' => MidTo w0 w w' mb wb (.slice ab bs.length cb) (.slice at' T ct) zs S bs tx T e := by
  by_cases h4 : tx.length < 4
  · have t1 : decide ((tx.length : Int) < 4) = true := by simp; omega
    have hf := mfresh_any P (hx.kept P.kept (fun _ _ => by simp)) hox (fun hne => hx.lt hne) (by omega) (by omega)
    clear P hx hb
    go_enter Try.func54, Try.ntmps54
    go_wp2_with fail
    go_step3
    go_wp2_with fail
    go_at_call 88
    refine hf.mono ?_
    rintro e w1 ⟨rfl, hw⟩
    have HF : Hid (MidTo w0 w w1 mb wb (.slice ab bs.length cb) (.slice at' T ct) zs S bs tx T (.returned (.tuple #[]))) := by
      refine ⟨rfl, newC tx, by unfold midL; rw [if_pos h4], by rw [← newE_encs]; exact hw, newC_ok _ _, newC_txts _ _, ?_⟩
      rw [← newE_encs]
      have e1 := newE_len tx
      have e2 := wd_three (2 * tx.length) (by omega)
      omega
    clear hf hw
    go_wp2
    try rw [Exit.noGoto_ret]
    exact bodyPost_ret (v := .tuple #[]) (by simp [results, Try.results54, go_sem]) rfl HF.out
  · have t1 : decide ((tx.length : Int) < 4) = false := by simp; omega
    obtain ⟨g0, g1, g2⟩ := P.cells
    have hix := indexed_any (hb.kept P.kept (fun _ _ => by simp)) hob hsb
    have HPm : Hid (Mkr w0 w mb wb (.slice ab bs.length cb) (.slice at' T ct) zs S) := P
    have HB : Hid (∀ W, Kept [] w0 W → BytesAt W (.slice ab bs.length cb) bs) := fun W k => hb.kept k (fun _ _ => by simp)
    have HX : Hid (BytesAt w0 (.slice ax tx.length cx) tx) := hx
    clear P hb hx
    go_enter Try.func54, Try.ntmps54
    go_wp2_with fail
    go_step3
    go_wp2_with fail
    go_at_call 89
    refine hix.mono ?_
    rintro e w1 ⟨k1, b, nb, rfl, hm1, hn1, hb1, hb2⟩
    have hk2 : Kept [] w1 (w1.alloc (.cells #[.map (some b), .slice (some ⟨nb, 0, none⟩) bs.length bs.length] 130)) := (Kept.refl _ _).alloc _
    have hSlt := HPm.out.wr.lt
    have hs1 := k1.size
    have P2 : MdSt w0 (w1.alloc (.cells #[.map (some b), .slice (some ⟨nb, 0, none⟩) bs.length bs.length] 130)) mb wb w1.heap.size b nb (.slice ab bs.length cb) (.slice at' T ct) zs S bs :=
      ⟨(HPm.out.on0 k1).on0 hk2, heap_alloc_new w1 _, hm1.kept hk2 (by simp), hn1.kept hk2 (by simp), fun h => by have := (hSlt _ h).2; omega, fun h => by have := (hSlt _ h).2; omega, fun h => by have := (hSlt _ h).2; omega⟩
    have HP2 : Hid (MdSt w0 (w1.alloc (.cells #[.map (some b), .slice (some ⟨nb, 0, none⟩) bs.length bs.length] 130)) mb wb w1.heap.size b nb (.slice ab bs.length cb) (.slice at' T ct) zs S bs) := P2
    have HK2 : Hid (Kept S w (w1.alloc (.cells #[.map (some b), .slice (some ⟨nb, 0, none⟩) bs.length bs.length] 130))) := (k1.then hk2).more (by simp)
    have HS0 : Hid (∀ x, x ∈ S → x < w.heap.size) := fun x hx => (hSlt x hx).2
    clear hix k1 hm1 hn1 hb1 hb2 hSlt P2 hk2 HPm g0 g1 g2 hs1
    go_wp2
    go_step3
    go_wp2
    generalize w1.heap.size = xk at *
    have hcutA : ∀ (ao : Option Addr) (cap lo : Nat), (if cap = lo then ao else Option.map (fun x => x.add lo) ao) = cutA ao cap lo := fun _ _ _ => rfl
    go_loopg [1, 5, 6, 22, 23] tx.length (fun gk s1 _ _ _ _ wr => ∃ (a1 : Option Addr) (c1 : Nat) (rem : List Int) (cs : List Cd) (S1 : List Nat), s1 = .slice a1 gk c1 ∧ gk ≤ tx.length ∧ Hid (gk = rem.length ∧ BytesAt w0 (.slice a1 gk c1) rem ∧ Octs rem ∧ Part bs tx rem cs ∧ Run bs T tx cs [] rem ∧ MdSt w0 wr mb wb xk b nb (.slice ab bs.length cb) (.slice at' T ct) (zs ++ encs cs) S1 bs ∧ Kept S w wr ∧ (∀ x, x ∈ S1 → x ∈ S ∨ w.heap.size ≤ x)))
    case atStart => exact ⟨_, _, tx, [], S, rfl, Nat.le_refl _, rfl, HX.out, hox, ⟨fun c hc => by simp at hc, rfl, Nat.le_refl _⟩, Run.start _ _ _, by simpa [encs] using HP2.out, HK2.out, fun x hx => Or.inl hx⟩
    case round =>
      clear HP2 HK2
      obtain ⟨a1, c1, rem, cs, S1, rfl, hn1, HS⟩ := hrel
      obtain ⟨hr, hbr, hor, hpt, hrun, hmd, hkw, hs1⟩ := HS.out
      have HR : Hid (gk = rem.length) := hr
      have HBR : Hid (BytesAt w0 (.slice a1 gk c1) rem) := hbr
      have HOR : Hid (Octs rem) := hor
      have HPT : Hid (Part bs tx rem cs) := hpt
      have HRU0 : Hid (Run bs T tx cs [] rem) := hrun
      have HMD : Hid (MdSt w0 wr mb wb xk b nb (.slice ab bs.length cb) (.slice at' T ct) (zs ++ encs cs) S1 bs) := hmd
      have HKW : Hid (Kept S w wr) := hkw
      have HS1 : Hid (∀ x, x ∈ S1 → x ∈ S ∨ w.heap.size ≤ x) := hs1
      clear HS hr hbr hor hpt hrun hmd hkw hs1
      by_cases hg0 : 0 < gk
      · have t2 : decide (0 < (gk : Int)) = true := by simp; omega
        go_wp2
        obtain ⟨G, rfl⟩ : ∃ G, G = gk := ⟨_, rfl⟩
        go_loopg [1, 5, 6, 23] G (fun q s1 _ _ s23 wq => ∃ j : Nat, s1 = .slice a1 G c1 ∧ q + j = G ∧ s23 = .int .i64 j ∧ Hid (Run bs T tx cs (rem.take j) (rem.drop j) ∧ MdSt w0 wq mb wb xk b nb (.slice ab bs.length cb) (.slice at' T ct) (zs ++ encs cs) S1 bs ∧ Kept S w wq))
        case atStart => exact ⟨0, rfl, rfl, rfl, HRU0.out, HMD.out, HKW.out⟩
        case round =>
          obtain ⟨j, rfl, hqj, rfl, HS⟩ := hrel
          clear HMD HKW
          have HMD : Hid (MdSt w0 wr mb wb xk b nb (.slice ab bs.length cb) (.slice at' T ct) (zs ++ encs cs) S1 bs) := HS.out.2.1
          have HKW : Hid (Kept S w wr) := HS.out.2.2
          have HRU : Hid (Run bs T tx cs (rem.take j) (rem.drop j)) := HS.out.1
          clear HS
          have hrl := HR.out
          by_cases hjg : j < G
          · have t3 : decide ((j : Int) < G) = true := by simp; omega
            have l1 : (rem.drop j).length = G - j := by rw [List.length_drop]; omega
            have hbest : ∀ W, Kept [] wr W → Calls Try.prog 90 #[.pointer (some ⟨mb, 0, none⟩), .agg #[.map (some b), .slice (some ⟨nb, 0, none⟩) bs.length bs.length], .slice (cutA a1 c1 j) (G - j) (c1 - j)] W fun e w' => BestTo W w' bs (rem.drop j) (ixL bs) T e := fun W kW => by
              have M := HMD.out.on kW
              have e1 := (bytes_tail HBR.out j (by omega)).kept M.mk'.kept (fun _ _ => by simp)
              rw [← List.length_drop] at e1
              have e2 := best_any M.mk'.box (HB.out _ M.mk'.kept) hsb M.ix M.nx e1 (octs_drop HOR.out j) (by omega) hT
              rw [l1] at e2
              exact e2
            have i0 : (0 : Int) ≤ j := by omega
            have i1 : (j : Int) ≤ G := by omega
            obtain ⟨x1, x2, x3⟩ := own_facts HMD.out.xbox
            have HSl := HMD.out.mk'.wr.lt
            have HSz : Hid (∀ x, x ∈ S1 → x < wr.heap.size) := fun x hx => (HSl x hx).2
            clear HSl hrl l1
            go_wp2_with fail
            go_cut [6] from 26 to 32 (fun s6 wx => ∃ (sb st l : Nat) (most : Int), s6 = .pointer (some ⟨sb, 0, none⟩) ∧ Hid (GoodB bs (rem.drop j) T st l most ∧ wx.heap[sb]? = some (.cells #[.int .i64 st, .int .i64 l] 127 (0, 0)) ∧ MdSt w0 wx mb wb xk b nb (.slice ab bs.length cb) (.slice at' T ct) (zs ++ encs cs) S1 bs ∧ Kept S w wx ∧ sb ∉ S1))
            case first =>
              go_region_with (go_at_call 90; first
                | (with_reducible refine (hbest _ (((Kept.refl [] wr).alloc _).drew)).mono ?_
                   rintro e w2 ⟨k2, st, l, most, rfl, hgs⟩
                   replace hgs : GoodB bs (rem.drop j) T st l most := hgs
                   have kk : Kept [] wr w2 := ((Kept.refl [] wr).alloc _).drew.then k2
                   have HM2 := HMD.out.on kk
                   obtain ⟨y1, y2, y3⟩ := own_facts HM2.xbox
                   have bx : w2.heap[wr.heap.size]? = some (.cells #[.int .i64 0, .int .i64 0] 127 (0, 0)) := k2.undraw.heap (heap_alloc_new wr _) (by simp)
                   obtain ⟨z1, z2, z3⟩ := own_facts bx
                   have HF2 : Hid (GoodB bs (rem.drop j) T st l most ∧ ((w2.setCell ⟨wr.heap.size, 0, none⟩ (.int .i64 st)).setCell ⟨wr.heap.size, 1, none⟩ (.int .i64 l)).heap[wr.heap.size]? = some (.cells #[.int .i64 st, .int .i64 l] 127 (0, 0)) ∧ MdSt w0 ((w2.setCell ⟨wr.heap.size, 0, none⟩ (.int .i64 st)).setCell ⟨wr.heap.size, 1, none⟩ (.int .i64 l)) mb wb xk b nb (.slice ab bs.length cb) (.slice at' T ct) (zs ++ encs cs) S1 bs ∧ Kept S w ((w2.setCell ⟨wr.heap.size, 0, none⟩ (.int .i64 st)).setCell ⟨wr.heap.size, 1, none⟩ (.int .i64 l)) ∧ wr.heap.size ∉ S1) := by
                     have k5 : Kept [wr.heap.size] w2 ((w2.setCell ⟨wr.heap.size, 0, none⟩ (.int .i64 st)).setCell ⟨wr.heap.size, 1, none⟩ (.int .i64 l)) := ((Kept.refl [wr.heap.size] w2).setCell (p := ⟨wr.heap.size, 0, none⟩) (Or.inl (by simp)) _).setCell (p := ⟨wr.heap.size, 1, none⟩) (Or.inl (by simp)) _
                     have hws := HKW.out.size
                     exact ⟨hgs, heap_setCell_same _ _ _ _ _ _ (heap_setCell_same _ _ _ _ _ _ bx), HMD.out.set HM2 (Nat.le_refl _) k5, (HKW.out.then (kk.more (by simp))).trans k5 (by simp; omega), fun hx => by have h1 := HSz.out _ hx; omega⟩
                   clear HM2 k2 hgs kk bx)
                | (with_reducible refine (hbest _ ((Kept.refl [] wr).drew)).mono ?_
                   rintro e w2 ⟨k2, st, l, most, rfl, hgs⟩
                   replace hgs : GoodB bs (rem.drop j) T st l most := hgs
                   have kk : Kept [] wr w2 := (Kept.refl [] wr).drew.then k2
                   have HM2 := HMD.out.on kk
                   obtain ⟨y1, y2, y3⟩ := own_facts HM2.xbox
                   have HF2 : Hid (GoodB bs (rem.drop j) T st l most ∧ (w2.alloc (.cells #[.int .i64 st, .int .i64 l] 127)).heap[w2.heap.size]? = some (.cells #[.int .i64 st, .int .i64 l] 127 (0, 0)) ∧ MdSt w0 (w2.alloc (.cells #[.int .i64 st, .int .i64 l] 127)) mb wb xk b nb (.slice ab bs.length cb) (.slice at' T ct) (zs ++ encs cs) S1 bs ∧ Kept S w (w2.alloc (.cells #[.int .i64 st, .int .i64 l] 127)) ∧ w2.heap.size ∉ S1) :=
                     ⟨hgs, heap_alloc_new w2 _, HM2.on ((Kept.refl _ _).alloc _), (HKW.out.then (kk.more (by simp))).alloc _, fun hx => by have h1 := HSz.out _ hx; have h2 := kk.size; omega⟩
                   clear HM2 k2 hgs kk))
              all_goals (go_wp2_with fail; go_meet; exact ⟨_, st, l, most, rfl, HF2.out⟩)
            case rest =>
            obtain ⟨sb, st, l, most, rfl, HQ⟩ := hcut
            obtain ⟨hgd, hbx, hm5, hk5, hs5⟩ := HQ.out
            have HBX : Hid (wc.heap[sb]? = some (.cells #[.int .i64 st, .int .i64 l] 127 (0, 0))) := hbx
            have HM5 : Hid (MdSt w0 wc mb wb xk b nb (.slice ab bs.length cb) (.slice at' T ct) (zs ++ encs cs) S1 bs) := hm5
            have HK5 : Hid (Kept S w wc) := hk5
            have HS5 : Hid (sb ∉ S1) := hs5
            have HGD : Hid (GoodB bs (rem.drop j) T st l most) := hgd
            obtain ⟨z1, z2, z3⟩ := own_facts hbx
            clear HQ hbx hm5 hk5 hs5 hgd hbest HMD HKW x1 x2 x3 HSz
            by_cases hl0 : l = 0
            · subst hl0
              go_wp2
              go_roundg (gk - 1)
              case measure => omega
              case rel => exact ⟨j + 1, rfl, by omega, by go_num, HRU.out.skip (by have := HR.out; omega) HGD.out.2.2.symm, HM5.out, HK5.out⟩
            · have e0 : ((l : Int) == 0) = false := by simp; omega
              obtain ⟨hp6, hst, hjl⟩ := HPT.out.step HGD.out.1 hl0 (by have := HR.out; omega) hT (by have := HR.out; omega)
              have htxl : (txts bs cs).length ≤ tx.length := by rw [← HPT.out.txt, List.length_append]; omega
              have hzl : (zs ++ encs cs).length ≤ 100000 := by have := HPT.out.len; rw [List.length_append]; omega
              have l2 : (rem.take j).length = j := by rw [List.length_take]; omega
              have hbh : BytesAt w0 (.slice a1 (rem.take j).length c1) (rem.take j) := by rw [l2]; exact bytes_head HBR.out j (by omega)
              have hfr := mfresh_any HM5.out.mk' (hbh.kept HM5.out.mk'.kept (fun _ _ => by simp)) (octs_take HOR.out j) (fun hne => hbh.lt hne) (by omega) (by omega)
              rw [l2] at hfr
              have HRU6 : Hid (Run bs T tx (cs ++ newC (rem.take j) ++ [.cp st l]) [] (rem.drop (j + l))) := HRU.out.copy (by have := HR.out; omega) hl0 HGD.out.2.1 HGD.out.2.2
              have HP6 : Hid (Part bs tx (rem.drop (j + l)) (cs ++ newC (rem.take j) ++ [.cp st l])) := hp6
              have hnl := newE_len (rem.take j)
              have hw3 := wd_three (2 * (rem.take j).length) (by omega)
              have hrG := HR.out
              have HJL : Hid (j + l ≤ G) := (by omega : j + l ≤ G)
              have HST : Hid (st + l ≤ bs.length) := hst
              have hcapG : rem.length ≤ c1 := by obtain ⟨_, _, he, hc, _, _⟩ := HBR.out; injection he with e1 e2 e3; omega
              have i1c : (j : Int) ≤ c1 := by omega
              have hstb : st ≤ 65536 := by omega
              have hlb : l ≤ 65536 := by omega
              have hjl2 : j + l ≤ G := by omega
              have hzl2 : (zs ++ encs cs ++ newE (rem.take j)).length ≤ 1073741824 := by rw [List.length_append]; omega
              clear hp6 hst hjl htxl hnl hw3 hbh l2 hrG hcapG
              go_wp2_with fail
              go_at_call 88
              refine hfr.mono ?_
              rintro e w6 ⟨rfl, hw⟩
              obtain ⟨S6, m6, k6, h6⟩ := HM5.out.wrote hw
              have hbx6 := k6.heap HBX.out HS5.out
              clear z1 z2 z3
              obtain ⟨z1, z2, z3⟩ := own_facts hbx6
              have hcp := mcopied_any m6.mk' st l hstb hlb hzl2
              have HM6 : Hid (MdSt w0 w6 mb wb xk b nb (.slice ab bs.length cb) (.slice at' T ct) (zs ++ encs cs ++ newE (rem.take j)) S6 bs) := m6
              have HK6 : Hid (Kept S w w6) := HK5.out.trans k6 HS1.out
              have HS6 : Hid (∀ x, x ∈ S6 → x ∈ S ∨ w.heap.size ≤ x) := fun x hx => by
                rcases h6 x hx with h | h
                · exact HS1.out x h
                · exact Or.inr (Nat.le_trans HK5.out.size h)
              have HSB : Hid (sb ∉ S6) := fun hx => by
                rcases h6 _ hx with h | h
                · exact HS5.out h
                · have := lt_of_block HBX.out; omega
              have HBX6 : Hid (w6.heap[sb]? = some (.cells #[.int .i64 st, .int .i64 l] 127 (0, 0))) := hbx6
              clear hfr hw m6 k6 h6 hbx6 HM5 HK5 HS1 HS5 HBX
              go_wp2_with fail
              go_at_call 53
              refine hcp.mono ?_
              rintro e w7 ⟨rfl, hw⟩
              obtain ⟨S7, m7, k7, h7⟩ := HM6.out.wrote hw
              have hbx7 := k7.heap HBX6.out HSB.out
              clear z1 z2 z3
              obtain ⟨z1, z2, z3⟩ := own_facts hbx7
              have HM7 : Hid (MdSt w0 w7 mb wb xk b nb (.slice ab bs.length cb) (.slice at' T ct) (zs ++ encs (cs ++ newC (rem.take j) ++ [.cp st l])) S7 bs) := by
                have e : zs ++ encs cs ++ newE (rem.take j) ++ cpE st l = zs ++ encs (cs ++ newC (rem.take j) ++ [.cp st l]) := by
                  rw [encs_app, encs_app, ← newE_encs]
                  have e2 : encs [Cd.cp st l] = cpE st l := by unfold cpE; rw [if_neg hl0]; simp [encs]
                  rw [e2]
                  simp only [List.append_assoc]
                rw [e] at m7
                exact m7
              have HK7 : Hid (Kept S w w7) := HK6.out.trans k7 HS6.out
              have HS7 : Hid (∀ x, x ∈ S7 → x ∈ S ∨ w.heap.size ≤ x) := fun x hx => by
                rcases h7 x hx with h | h
                · exact HS6.out x h
                · exact Or.inr (Nat.le_trans HK6.out.size h)
              have hw8 : IntKind.i64.wrap ((j : Int) + l) = ((j + l : Nat) : Int) := by rw [IntKind.wrap_i64]; omega
              have i2 : (0 : Int) ≤ ((j + l : Nat) : Int) := by omega
              have i3 : ((j + l : Nat) : Int) ≤ G := by omega
              have HB7 : Hid (BytesAt w0 (.slice (cutA a1 c1 (j + l)) (G - (j + l)) (c1 - (j + l))) (rem.drop (j + l))) := by
                have e1 := bytes_tail HBR.out (j + l) (by have := HR.out; omega)
                rw [← HR.out] at e1
                exact e1
              have HO7 : Hid (Octs (rem.drop (j + l))) := octs_drop HOR.out _
              have HL7 : Hid (G - (j + l) = (rem.drop (j + l)).length) := by rw [List.length_drop, ← HR.out]; exact rfl
              clear hcp hw m7 k7 h7 hbx7 HM6 HK6 HS6 HSB HBX6
              generalize hjn : j + l = jl at *
              go_wp2
              go_roundg (G - jl)
              case measure => omega
              case rel => exact ⟨_, _, rem.drop jl, _, S7, rfl, by omega, HL7.out, HB7.out, HO7.out, HP6.out, HRU6.out, HM7.out, HK7.out, HS7.out⟩
          · have t3 : decide ((j : Int) < G) = false := by simp; omega
            have htxl : (txts bs cs).length + rem.length = tx.length := by rw [← HPT.out.txt, List.length_append]
            have hzl : (zs ++ encs cs).length ≤ 100000 := by have := HPT.out.len; rw [List.length_append]; omega
            have hbh := HBR.out
            rw [hrl] at hbh
            have hfr := mfresh_any HMD.out.mk' (hbh.kept HMD.out.mk'.kept (fun _ _ => by simp)) HOR.out (fun hne => hbh.lt hne) (by omega) (by omega)
            rw [← hrl] at hfr
            have hnl := newE_len rem
            have hw3 := wd_three (2 * rem.length) (by omega)
            have HFin : Hid (∀ w6, MWrote w0 wr w6 mb wb (.slice ab bs.length cb) (.slice at' T ct) (zs ++ encs cs ++ newE rem) S1 → MidTo w0 w w6 mb wb (.slice ab bs.length cb) (.slice at' T ct) zs S bs tx T (.returned (.tuple #[]))) := fun w6 hw => by
              refine ⟨rfl, cs ++ newC rem, by unfold midL; rw [if_neg h4, HRU.out.done (by have := HR.out; omega)], ?_, fun c hc => (List.mem_append.1 hc).elim (HPT.out.ok c) (newC_ok _ _ c), ?_, ?_⟩
              · have h := MWrote.trans HKW.out HS1.out hw
                rw [encs_app, ← newE_encs, ← List.append_assoc]
                exact h
              · rw [txts_app, newC_txts]; exact HPT.out.txt
              · rw [encs_app, List.length_append, ← newE_encs]
                have := HPT.out.len
                omega
            clear hbh hnl hw3 hrl hzl htxl
            go_wp2_with fail
            go_at_call 88
            refine hfr.mono ?_
            rintro e w6 ⟨rfl, hw⟩
            have HF := HFin.out w6 hw
            have HFF : Hid (MidTo w0 w w6 mb wb (.slice ab bs.length cb) (.slice at' T ct) zs S bs tx T (.returned (.tuple #[]))) := HF
            clear hfr hw HF
            go_wp2
            try rw [Exit.noGoto_ret]
            exact bodyPost_ret (v := .tuple #[]) (by simp [results, Try.results54, go_sem]) rfl HFF.out
      · have t2 : decide (0 < (gk : Int)) = false := by simp; omega
        have HFF : Hid (MidTo w0 w wr mb wb (.slice ab bs.length cb) (.slice at' T ct) zs S bs tx T (.returned (.tuple #[]))) := by
          have e0 : rem = [] := List.eq_nil_of_length_eq_zero (by have := HR.out; omega)
          have e1 := HPT.out.txt
          rw [e0, List.append_nil] at e1
          obtain ⟨S9, m9, k9, h9⟩ := MWrote.refl HMD.out.mk'
          refine ⟨rfl, cs, by unfold midL; rw [if_neg h4]; have h := HRU0.out; rw [e0] at h; exact h.none.symm, ⟨S1, HMD.out.mk', HKW.out, HS1.out⟩, HPT.out.ok, e1, ?_⟩
          have := HPT.out.len
          rw [e1] at this
          omega
        go_wp2
        first
          | (go_end0; exact HFF.out)
          | (rw [Exit.noGoto_normal]; go_end0; exact HFF.out)
end Go.Proofs.Ytldhbcppnoldiaa
