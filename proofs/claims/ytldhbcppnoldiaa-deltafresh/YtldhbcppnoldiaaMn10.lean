/-
  WALK: delta.Make, its answer told.
-/
import Derived.Test.YtldhbcppnoldiaaMn9
namespace Go.Proofs.Ytldhbcppnoldiaa
open Go.RowKit Go.WideMaps

def lcsN (xs ys : List Int) : Nat := lcpN xs.reverse ys.reverse
theorem lcsN_is (xs ys : List Int) : LcsIs xs ys (lcsN xs ys) := by
  obtain ⟨h1, h2, h3, h4⟩ := lcpN_is xs.reverse ys.reverse
  unfold lcsN
  rw [List.length_reverse] at h1 h2
  refine ⟨h1, h2, fun i hi => ?_, fun a b => ?_⟩
  · have h := h3 i hi
    rw [List.getElem?_reverse (by omega), List.getElem?_reverse (by omega)] at h
    exact h
  · have h := h4 (by rw [List.length_reverse]; exact a) (by rw [List.length_reverse]; exact b)
    rw [List.getElem?_reverse (by omega), List.getElem?_reverse (by omega)] at h
    exact h

def cpC (st n : Nat) : List Cd := if n = 0 then [] else [.cp st n]
theorem cpE_encs (st n : Nat) : cpE st n = encs (cpC st n) := by
  unfold cpE cpC
  split
  · rfl
  · simp [encs]
theorem cpC_txts (bs : List Int) (st n : Nat) : txts bs (cpC st n) = (bs.drop st).take n := by
  unfold cpC
  split
  · rename_i h
    rw [h]; rfl
  · simp [txts, Cd.txt]
theorem cpC_ok (bs : List Int) (st n : Nat) (h : st + n ≤ bs.length) : ∀ c, c ∈ cpC st n → c.ok bs := by
  unfold cpC
  split
  · intro c hc; simp at hc
  · intro c hc
    rw [List.mem_singleton.1 hc]
    exact ⟨by omega, h⟩
theorem cpE_len (st n : Nat) : (cpE st n).length ≤ wd (2 * n + 1) + wd st ∧ (n = 0 → (cpE st n).length = 0) := by
  unfold cpE
  split
  · exact ⟨by simp, fun _ => rfl⟩
  · rename_i h
    exact ⟨by rw [cp_len]; exact Nat.le_refl _, fun e => absurd e h⟩

/-- The three parts of a delta that Make writes: they give the target, and are short. -/
theorem make_parts (bs ts : List Int) (hb : bs.length ≤ 65536) (ht : ts.length ≤ 65536) (p s : Nat) (hp : LcpIs bs ts p) (hs : LcsIs (bs.drop p) (ts.drop p) s) (h t : Nat) (hh : h = keepL (gainL p 0 ts.length) p) (htt : t = keepL (gainL s (bs.length - s) ts.length) s)
    (cs : List Cd) (hok : ∀ c, c ∈ cs → c.ok bs) (htx : txts bs cs = (ts.drop h).take (ts.length - t - h)) (hl : (encs cs).length ≤ (ts.length - t - h) + 3) :
    (∀ c, c ∈ cpC 0 h ++ cs ++ cpC (bs.length - t) t → c.ok bs) ∧ txts bs (cpC 0 h ++ cs ++ cpC (bs.length - t) t) = ts ∧ (delL bs ts (cpC 0 h ++ cs ++ cpC (bs.length - t) t)).length + p + s ≤ ts.length + 32 := by
  have p1 := hp.a
  have p2 := hp.b
  have s1 := hs.a
  have s2 := hs.b
  rw [List.length_drop] at s1 s2
  have hh' : h = p ∨ h = 0 := by rw [hh]; unfold keepL; split <;> simp
  have ht' : t = s ∨ t = 0 := by rw [htt]; unfold keepL; split <;> simp
  have hhp : h ≤ p := by omega
  have hts : t ≤ s := by omega
  refine ⟨fun c hc => ?_, ?_, ?_⟩
  · rcases List.mem_append.1 hc with e | e
    · rcases List.mem_append.1 e with e | e
      · exact cpC_ok bs 0 h (by omega) c e
      · exact hok c e
    · exact cpC_ok bs _ t (by omega) c e
  · rw [txts_app, txts_app, cpC_txts, cpC_txts, htx]
    have e1 : (bs.drop 0).take h = ts.take h := by
      rw [List.drop_zero]
      rcases hh' with e | e
      · rw [e]; exact hp.take
      · rw [e]; rfl
    have e2 : (bs.drop (bs.length - t)).take t = ts.drop (ts.length - t) := by
      have e3 : bs.drop (bs.length - t) = ts.drop (ts.length - t) := by
        rcases ht' with e | e
        · rw [e]
          have h1 := hs.drop
          rw [List.length_drop, List.length_drop, List.drop_drop, List.drop_drop] at h1
          rw [show p + (bs.length - p - s) = bs.length - s by omega, show p + (ts.length - p - s) = ts.length - s by omega] at h1
          exact h1
        · rw [e, Nat.sub_zero, Nat.sub_zero, List.drop_length, List.drop_length]
      rw [e3, List.take_of_length_le (by rw [List.length_drop]; omega)]
    rw [e1, e2]
    have e4 : (ts.drop h).take (ts.length - t - h) ++ ts.drop (ts.length - t) = ts.drop h := by
      have e5 : ts.drop (ts.length - t) = (ts.drop h).drop (ts.length - t - h) := by rw [List.drop_drop]; congr 1; omega
      rw [e5, List.take_append_drop]
    rw [List.append_assoc, e4, List.take_append_drop]
  · unfold delL
    rw [encs_app, encs_app, ← cpE_encs, ← cpE_encs]
    simp only [List.length_append]
    have a1 := wd_three bs.length (by omega)
    have a2 := wd_three ts.length (by omega)
    have a3 := cpE_len 0 h
    have a4 := cpE_len (bs.length - t) t
    have a5 := wd_three (2 * h + 1) (by omega)
    have a6 : wd 0 = 1 := wd_one 0 (by omega)
    have a7 := wd_three (2 * t + 1) (by omega)
    have a8 := wd_three (bs.length - t) (by omega)
    have b1 := wd_three (2 * p + 1) (by omega)
    have b2 := wd_three (2 * ts.length) (by omega)
    have b3 := wd_three (2 * s + 1) (by omega)
    have b4 := wd_three (bs.length - s) (by omega)
    have c1 : h = p ∨ (h = 0 ∧ p ≤ 7) := by
      rw [hh]; unfold keepL
      split
      · rename_i hg
        unfold gainL at hg
        exact Or.inr ⟨rfl, by omega⟩
      · exact Or.inl rfl
    have c2 : t = s ∨ (t = 0 ∧ s ≤ 9) := by
      rw [htt]; unfold keepL
      split
      · rename_i hg
        unfold gainL at hg
        exact Or.inr ⟨rfl, by omega⟩
      · exact Or.inl rfl
    unfold wd at a1 a2
    omega

/-- The commands of the delta that Make writes. -/
def makeL (bs ts : List Int) : List Cd :=
  cpC 0 (keepL (gainL (lcpN bs ts) 0 ts.length) (lcpN bs ts)) ++
  midL bs ts.length ((ts.drop (keepL (gainL (lcpN bs ts) 0 ts.length) (lcpN bs ts))).take (ts.length - keepL (gainL (lcsN (bs.drop (lcpN bs ts)) (ts.drop (lcpN bs ts))) (bs.length - lcsN (bs.drop (lcpN bs ts)) (ts.drop (lcpN bs ts))) ts.length) (lcsN (bs.drop (lcpN bs ts)) (ts.drop (lcpN bs ts))) - keepL (gainL (lcpN bs ts) 0 ts.length) (lcpN bs ts))) ++
  cpC (bs.length - keepL (gainL (lcsN (bs.drop (lcpN bs ts)) (ts.drop (lcpN bs ts))) (bs.length - lcsN (bs.drop (lcpN bs ts)) (ts.drop (lcpN bs ts))) ts.length) (lcsN (bs.drop (lcpN bs ts)) (ts.drop (lcpN bs ts)))) (keepL (gainL (lcsN (bs.drop (lcpN bs ts)) (ts.drop (lcpN bs ts))) (bs.length - lcsN (bs.drop (lcpN bs ts)) (ts.drop (lcpN bs ts))) ts.length) (lcsN (bs.drop (lcpN bs ts)) (ts.drop (lcpN bs ts))))

structure MakeTo (w w' : World) (bs ts : List Int) (e : Ending) : Prop where
  kept : Kept [] w w'
  long : (65536 < bs.length ∨ 65536 < ts.length) → e = .returned (.tuple #[.slice none 0 0, .int .i64 73])
  ok : bs.length ≤ 65536 → ts.length ≤ 65536 → ∃ q cs, e = .returned (.tuple #[.slice (some ⟨q, 0, none⟩) (delL bs ts cs).length (delL bs ts cs).length, .int .i64 0]) ∧
    w'.heap[q]? = some (.cells ((delL bs ts cs).map (Value.int .u8)).toArray 5 (0, 0)) ∧ w.heap.size ≤ q ∧ (∀ c, c ∈ cs → c.ok bs) ∧ txts bs cs = ts ∧ (∀ p s, LcpIs bs ts p → LcsIs (bs.drop p) (ts.drop p) s → (delL bs ts cs).length + p + s ≤ ts.length + 32) ∧ cs = makeL bs ts

set_option maxRecDepth 100000 in
set_option maxHeartbeats 4000000 in
theorem Make_any {w : World} {ab ad : Option Addr} {cb ct : Nat} {bs ts : List Int} (hb : BytesAt w (.slice ab bs.length cb) bs) (hob : Octs bs) (hsb : bs.length ≤ 140737488355328) (ht : BytesAt w (.slice ad ts.length ct) ts) (hot : Octs ts) (hst : ts.length ≤ 140737488355328) :
    Calls Try.prog 22 #[.slice ab bs.length cb, .slice ad ts.length ct] w fun e w' => MakeTo w w' bs ts e := by
  by_cases hl : bs.length ≤ 65536 ∧ ts.length ≤ 65536
  · obtain ⟨hb1, ht1⟩ := hl
    obtain ⟨m, hm, hm1⟩ : ∃ m : Nat, max (bs.length : Int) (ts.length : Int) = m ∧ m ≤ 65536 := ⟨max bs.length ts.length, by omega, by omega⟩
    have t1 : decide (65536 < (m : Int)) = false := by simp; omega
    obtain ⟨p, hpE⟩ : ∃ p, p = lcpN bs ts := ⟨_, rfl⟩
    obtain ⟨s, hsE⟩ : ∃ s, s = lcsN (bs.drop p) (ts.drop p) := ⟨_, rfl⟩
    have hp : LcpIs bs ts p := hpE ▸ lcpN_is bs ts
    have hs : LcsIs (bs.drop p) (ts.drop p) s := hsE ▸ lcsN_is _ _
    have HMk : Hid (makeL bs ts = cpC 0 (keepL (gainL p 0 ts.length) p) ++ midL bs ts.length ((ts.drop (keepL (gainL p 0 ts.length) p)).take (ts.length - keepL (gainL s (bs.length - s) ts.length) s - keepL (gainL p 0 ts.length) p)) ++ cpC (bs.length - keepL (gainL s (bs.length - s) ts.length) s) (keepL (gainL s (bs.length - s) ts.length) s)) := by
      unfold makeL
      rw [← hpE, ← hsE]
      exact rfl
    clear hpE hsE
    have hbeg := begin_any (w := w) (ab := ab) (ad := ad) (cb := cb) (ct := ct) hb1 ht1
    have HPL : Hid (LcpIs bs ts p) := hp
    have HSL : Hid (LcsIs (bs.drop p) (ts.drop p) s) := hs
    have p1 := hp.a
    have p2 := hp.b
    have s1 := hs.a
    have s2 := hs.b
    rw [List.length_drop] at s1 s2
    have k1 := keepL_le (gainL p 0 ts.length) p
    have k2 := keepL_le (gainL s (bs.length - s) ts.length) s
    have HMP : Hid (∀ cs, (∀ c, c ∈ cs → c.ok bs) → txts bs cs = (ts.drop (keepL (gainL p 0 ts.length) p)).take (ts.length - keepL (gainL s (bs.length - s) ts.length) s - keepL (gainL p 0 ts.length) p) → (encs cs).length ≤ (ts.length - keepL (gainL s (bs.length - s) ts.length) s - keepL (gainL p 0 ts.length) p) + 3 → _) := fun cs a b c => make_parts bs ts hb1 ht1 p s hp hs _ _ rfl rfl cs a b c
    have HB : Hid (BytesAt w (.slice ab bs.length cb) bs) := hb
    have HT : Hid (BytesAt w (.slice ad ts.length ct) ts) := ht
    have hcap : ts.length ≤ ct := by obtain ⟨_, _, he, hc, _, _⟩ := ht; injection he with e1 e2 e3; omega
    have v1 : (varB (bs.length : Int)).length ≤ 10 := varB_len _ (by omega) (by omega)
    have v2 : (varB (ts.length : Int)).length ≤ 10 := varB_len _ (by omega) (by omega)
    clear hp hs hb ht
    go_enter Try.func22, Try.ntmps22
    go_wp2_with fail
    go_at_call 51
    refine hbeg.mono ?_
    rintro e w1 ⟨mb, wb, S1, rfl, P1⟩
    have hen := ends_any P1 (HB.out.kept P1.kept (fun _ _ => by simp)) (HT.out.kept P1.kept (fun _ _ => by simp)) hb1 ht1 p s HPL HSL
    have HP1 : Hid (Mkr w w1 mb wb (.slice ab bs.length cb) (.slice ad ts.length ct) (varB (bs.length : Int) ++ varB (ts.length : Int)) S1) := P1
    clear hbeg P1
    generalize keepL (gainL p 0 ts.length) p = h at *
    generalize keepL (gainL s (bs.length - s) ts.length) s = t at *
    go_wp2_with fail
    go_at_call 52
    refine hen.mono ?_
    rintro e w2 ⟨rfl, k3⟩
    have P2 := HP1.out.on0 k3
    have hcp := mcopied_any P2 0 h (by omega) (by omega) (by rw [List.length_append]; omega)
    have HP2 : Hid (Mkr w w2 mb wb (.slice ab bs.length cb) (.slice ad ts.length ct) (varB (bs.length : Int) ++ varB (ts.length : Int)) S1) := P2
    clear hen k3 P2 HP1
    go_wp2_with fail
    go_at_call 53
    have hcp0 : Calls Try.prog 53 #[.pointer (some ⟨mb, 0, none⟩), .int .i64 0, .int .i64 h] w2 fun e w' => e = .returned (.tuple #[]) ∧ MWrote w w2 w' mb wb (.slice ab bs.length cb) (.slice ad ts.length ct) (varB (bs.length : Int) ++ varB (ts.length : Int) ++ cpE 0 h) S1 := hcp
    refine hcp0.mono ?_
    rintro e w3 ⟨rfl, hw⟩
    obtain ⟨S3, P3, _, _⟩ := hw
    have z3 := (cpE_len 0 h).1
    have y1 := wd_three (2 * h + 1) (by omega)
    have y2 := wd_three 0 (by omega)
    have hl3 : (varB (bs.length : Int) ++ varB (ts.length : Int) ++ cpE 0 h).length ≤ 1000 := by rw [List.length_append, List.length_append]; omega
    obtain ⟨tx, htx⟩ : ∃ tx, tx = (ts.drop h).take (ts.length - t - h) := ⟨_, rfl⟩
    have htl : tx.length = ts.length - t - h := by rw [htx, List.length_take, List.length_drop]; omega
    have hbx : BytesAt w (.slice (cutA ad ct h) tx.length (ct - h)) tx := by rw [htl, htx]; exact (bytes_cut HT.out h (ts.length - t - h) (by omega)).1
    have hmid := middle_any P3 HB.out hob hb1 hbx (by rw [htx]; exact octs_take (octs_drop hot h) _) ht1 (by omega) hl3
    rw [htl] at hmid
    have HTX : Hid (tx = (ts.drop h).take (ts.length - t - h)) := htx
    have HTL : Hid (tx.length = ts.length - t - h) := htl
    have hw1 : IntKind.i64.wrap ((ts.length : Int) - t) = ((ts.length - t : Nat) : Int) := by rw [IntKind.wrap_i64]; omega
    have i0 : (0 : Int) ≤ h := by omega
    have i1 : (h : Int) ≤ ((ts.length - t : Nat) : Int) := by omega
    have i2 : ((ts.length - t : Nat) : Int) ≤ ct := by omega
    have hcutA : ∀ (ao : Option Addr) (cap lo : Nat), (if cap = lo then ao else Option.map (fun x => x.add lo) ao) = cutA ao cap lo := fun _ _ _ => rfl
    clear hcp hcp0 P3 htx htl hbx HP2 z3 y1 y2
    go_wp2_with fail
    go_at_call 54
    refine hmid.mono ?_
    rintro e w4 ⟨rfl, cs, hcsE, hw4, hok, htxs, hlen⟩
    have HCE : Hid (cpC 0 h ++ cs ++ cpC (bs.length - t) t = makeL bs ts) := by rw [HMk.out, hcsE, HTX.out]; exact rfl
    clear hcsE HMk
    obtain ⟨S4, P4, _, _⟩ := hw4
    have HPT : Hid ((∀ c, c ∈ cpC 0 h ++ cs ++ cpC (bs.length - t) t → c.ok bs) ∧ txts bs (cpC 0 h ++ cs ++ cpC (bs.length - t) t) = ts ∧ (delL bs ts (cpC 0 h ++ cs ++ cpC (bs.length - t) t)).length + p + s ≤ ts.length + 32) := HMP.out cs hok (by rw [htxs]; exact HTX.out) (by rw [← HTL.out]; exact hlen)
    have hl4 : (varB (bs.length : Int) ++ varB (ts.length : Int) ++ cpE 0 h ++ encs cs).length ≤ 1073741824 := by rw [List.length_append]; have := HTL.out; omega
    have hcp2 := mcopied_any P4 (bs.length - t) t (by omega) (by omega) hl4
    have hw2 : IntKind.i64.wrap ((bs.length : Int) - t) = ((bs.length - t : Nat) : Int) := by rw [IntKind.wrap_i64]; omega
    clear hmid P4 hok htxs hlen HTX HTL HMP hl3
    go_wp2_with fail
    go_at_call 53
    refine hcp2.mono ?_
    rintro e w5 ⟨rfl, hw5⟩
    obtain ⟨S5, P5, _, _⟩ := hw5
    have e5 : varB (bs.length : Int) ++ varB (ts.length : Int) ++ cpE 0 h ++ encs cs ++ cpE (bs.length - t) t = delL bs ts (cpC 0 h ++ cs ++ cpC (bs.length - t) t) := by
      unfold delL
      rw [encs_app, encs_app, ← cpE_encs, ← cpE_encs]
      simp only [List.append_assoc]
    rw [e5] at P5
    obtain ⟨g0, g1, g2⟩ := P5.cells
    have hdl : (delL bs ts (cpC 0 h ++ cs ++ cpC (bs.length - t) t)).length ≤ 140737488355328 := by have := HPT.out.2.2; omega
    have hout := WOut_any P5.wr hdl
    have HK5 : Hid (Kept [] w w5) := P5.kept
    clear hcp2 P5 e5 hl4
    generalize hcs : cpC 0 h ++ cs ++ cpC (bs.length - t) t = ca at *
    go_wp2_with fail
    go_at_call 16
    refine hout.mono ?_
    rintro e w6 ⟨rfl, hq, k6⟩
    have HF : Hid (MakeTo w w6 bs ts (.returned (.tuple #[.slice (some ⟨w5.heap.size, 0, none⟩) (delL bs ts ca).length (delL bs ts ca).length, .int .i64 0]))) := by
      refine ⟨HK5.out.then k6, fun h => by omega, fun _ _ => ⟨w5.heap.size, ca, rfl, hq, HK5.out.size, HPT.out.1, HPT.out.2.1, fun p' s' hp' hs' => ?_, HCE.out⟩⟩
      obtain rfl := HPL.out.uniq hp'
      obtain rfl := HSL.out.uniq hs'
      exact HPT.out.2.2
    clear hout hq k6 g0 g1 g2
    go_wp2
    go_ret2
    exact HF.out
  · obtain ⟨m, hm, hm1⟩ : ∃ m : Nat, max (bs.length : Int) (ts.length : Int) = m ∧ 65536 < m := ⟨max bs.length ts.length, by omega, by omega⟩
    have t1 : decide (65536 < (m : Int)) = true := by simp; omega
    have HL : Hid (¬ (bs.length ≤ 65536 ∧ ts.length ≤ 65536)) := hl
    clear hb ht hl
    go_enter Try.func22, Try.ntmps22
    go_wp2
    go_ret2
    exact ⟨Kept.refl _ _, fun _ => rfl, fun a b => absurd ⟨a, b⟩ HL.out⟩
end Go.Proofs.Ytldhbcppnoldiaa
