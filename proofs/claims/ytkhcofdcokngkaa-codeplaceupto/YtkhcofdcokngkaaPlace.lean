/-
  WALKS: satchellaw1.CodePlace, for every script whose first list is not too long for one Writer to hold it twice.
-/
import Derived.Test.YtkhcofdcokngkaaRead
import Derived.Test.YtkhcofdcokngkaaPlace0
import Derived.Test.YtkhcofdcokngkaaStep
namespace Go.Proofs.Ytkhcofdcokngkaa
open Go.RowKit

/-- What lies where on the way: the script's box; the list that is lent, with the bytes ls; the other list; the Writer, with the bytes us. -/
structure Pl (w W : World) (sc : Array Value) (gl cap : Nat) (ls : List Int) (u : Value) (zs : List Int) (wb m1 m2 : Nat) (A : Nat → Prop) (us : List Int) : Prop where
  kept : Kept [] w W
  sb : W.heap[w.heap.size]? = some (.cells sc 46 (0, 0))
  b1 : w.heap.size < m1
  b2 : m1 ≤ m2
  b3 : m2 ≤ W.heap.size
  lent : Lent W (w.heap.size + 1) gl cap ls
  gl0 : w.heap.size < gl
  gl1 : gl < m1
  own : OwnB W m1 u zs
  ub : ∀ k, u.ownBlock = some k → m1 ≤ k ∧ k < m2
  wr : ∃ S, WAt W wb m2 us S ∧ ∀ x, x ∈ S → A x
theorem Pl.on {w W W' : World} {sc : Array Value} {gl cap : Nat} {ls : List Int} {u : Value} {zs : List Int} {wb m1 m2 : Nat} {A : Nat → Prop} {us : List Int} (P : Pl w W sc gl cap ls u zs wb m1 m2 A us) (k : Kept [] W W') : Pl w W' sc gl cap ls u zs wb m1 m2 A us := by
  obtain ⟨S, h1, h2⟩ := P.wr
  exact ⟨P.kept.then k, k.heap P.sb (by simp), P.b1, P.b2, Nat.le_trans P.b3 k.size, Lent.kept P.lent k (by simp), P.gl0, P.gl1, OwnB.kept P.own k (by simp), P.ub, ⟨S, h1.kept k (by simp), h2⟩⟩
theorem Pl.into {w W W' : World} {sc : Array Value} {gl cap : Nat} {ls ls' : List Int} {u : Value} {zs : List Int} {wb m1 m2 : Nat} {A : Nat → Prop} {us : List Int} (P : Pl w W sc gl cap ls u zs wb m1 m2 A us) (k : Kept [gl] W W') (hl : Lent W' (w.heap.size + 1) gl cap ls') : Pl w W' sc gl cap ls' u zs wb m1 m2 A us := by
  obtain ⟨S, h1, h2⟩ := P.wr
  have g0 := P.gl0
  have g1 := P.gl1
  have b2 := P.b2
  exact ⟨P.kept.trans k (by simp; omega), k.heap P.sb (by simp; omega), P.b1, P.b2, Nat.le_trans P.b3 k.size, hl, g0, g1, OwnB.kept P.own k (fun x hx => by have := P.ub x hx; simp; omega), P.ub, ⟨S, h1.kept k (fun x hx => by have := h1.lt x hx; simp; omega), h2⟩⟩
theorem Pl.wrote {w W W' : World} {sc : Array Value} {gl cap : Nat} {ls : List Int} {u : Value} {zs : List Int} {wb m1 m2 : Nat} {A A' : Nat → Prop} {us us' : List Int} {S : List Nat} (P : Pl w W sc gl cap ls u zs wb m1 m2 A us) (hS : ∀ x, x ∈ S → m2 ≤ x) (hw : Wrote W W' wb m2 us' S) (hA : ∀ x, x ∈ S ∨ W.heap.size ≤ x → x < W'.heap.size → A' x) : Pl w W' sc gl cap ls u zs wb m1 m2 A' us' := by
  obtain ⟨S', h1, k, h2⟩ := hw
  have g0 := P.gl0
  have g1 := P.gl1
  have b1 := P.b1
  have b2 := P.b2
  exact ⟨P.kept.trans k (fun x hx => Or.inr (by have := hS x hx; omega)), k.heap P.sb (fun h => by have := hS _ h; omega), P.b1, P.b2, Nat.le_trans P.b3 k.size, Lent.kept P.lent k (fun h => by have := hS _ h; omega), g0, g1, OwnB.kept P.own k (fun x hx h => by have := P.ub x hx; have := hS _ h; omega), P.ub, ⟨S', h1, fun x hx => hA x (h2 x hx) (h1.lt x hx).2⟩⟩
theorem Pl.past {w W W' : World} {sc : Array Value} {gl cap : Nat} {ls : List Int} {u : Value} {zs : List Int} {wb m1 m2 r : Nat} {us : List Int} (P : Pl w W sc gl cap ls u zs wb m1 m2 (· ≠ r) us) (hr : m2 ≤ r) (k : Kept [r] W W') : Pl w W' sc gl cap ls u zs wb m1 m2 (· ≠ r) us := by
  obtain ⟨S, h1, h2⟩ := P.wr
  have g0 := P.gl0
  have g1 := P.gl1
  have b1 := P.b1
  have b2 := P.b2
  exact ⟨P.kept.trans k (by simp; omega), k.heap P.sb (by simp; omega), P.b1, P.b2, Nat.le_trans P.b3 k.size, Lent.kept P.lent k (by simp; omega), g0, g1, OwnB.kept P.own k (fun x hx => by have := P.ub x hx; simp; omega), P.ub, ⟨S, h1.kept k (fun x hx => by have := h2 x hx; simpa using this), h2⟩⟩
theorem Pl.script {w W : World} {sc : Array Value} {gl cap : Nat} {ls : List Int} {u : Value} {zs : List Int} {wb m1 m2 : Nat} {A : Nat → Prop} {us : List Int} (P : Pl w W sc gl cap ls u zs wb m1 m2 A us) : ∀ o, W.cell? ⟨w.heap.size, o, none⟩ = sc[o]? := fun _ => cell_of_row _ _ _ _ _ _ P.sb
theorem OpsAt.kept {w w' : World} {v : Value} {ops : List COp} (h : OpsAt w v ops) (k : Kept [] w w') : OpsAt w' v ops := by
  obtain ⟨ao, cap, rfl, hl, hc⟩ := h
  refine ⟨ao, cap, rfl, hl, fun hne => ?_⟩
  obtain ⟨b, off, rfl, hh⟩ := hc hne
  refine ⟨b, off, rfl, fun i o hi => ?_⟩
  obtain ⟨a0, a1, a2, a3, a4⟩ := hh i o hi
  exact ⟨k.cell a0 (by simp), k.cell a1 (by simp), k.cell a2 (by simp), k.cell a3 (by simp), k.cell a4 (by simp)⟩
theorem COp.Good.kept {w w' : World} {o : COp} (h : COp.Good o w) (k : Kept [] w w') : COp.Good o w' :=
  ⟨h.kind0, h.kind1, h.which0, h.which1, h.m0, h.m1, h.n0, h.n1, h.at'.kept k (fun _ _ => by simp), h.oct, h.small⟩

set_option maxRecDepth 100000 in
set_option maxHeartbeats 4000000 in
theorem place_any (w : World) (ao0 ao1 ao2 : Option Addr) (l1 c0 c1 c2 : Nat) (xs : List Int) (ops : List COp) (hb0 : BytesAt w (.slice ao0 xs.length c0) xs) (ho0 : Octs xs) (hs0 : xs.length ≤ 1048576)
    (hops : OpsAt w (.slice ao2 ops.length c2) ops) (hgd : ∀ o, o ∈ ops → COp.Good o w) :
    Calls Try.prog 6 #[.agg #[.slice ao0 xs.length c0, .slice ao1 l1 c1, .slice ao2 ops.length c2]] w fun e w' => e = .returned (.bool true) ∧ Kept [] w w' := by
  obtain ⟨W0, hW0⟩ : ∃ W0, W0 = w.alloc (.cells #[.slice ao0 xs.length c0, .slice ao1 l1 c1, .slice ao2 ops.length c2] 46) := ⟨_, rfl⟩
  have k0 : Kept [] w W0 := hW0 ▸ (Kept.refl [] w).alloc _
  have sb0 : W0.heap[w.heap.size]? = some (.cells #[.slice ao0 xs.length c0, .slice ao1 l1 c1, .slice ao2 ops.length c2] 46 (0, 0)) := hW0 ▸ heap_alloc_new w _
  have z0 : W0.heap.size = w.heap.size + 1 := by rw [hW0]; simp
  have hvl := varB_len (xs.length : Int) (by omega) (by omega)
  have HRead : Hid (∀ (W : World) (vi vb : Value) (ls : List Int), Kept [] w W → BytesAt W vi ls → BytesAt W vb ls → Octs ls → ls.length = xs.length → Calls Try.prog 32 #[vi, vb, .slice ao2 ops.length c2] W fun e w' => e = .returned (.bool true) ∧ Kept [] W w') :=
    fun W vi vb ls hk h1 h2 h3 h4 => read_any W vi vb ao2 c2 ls ops h1 h2 h3 (by omega) (hops.kept hk) (fun o ho => (hgd o ho).kept hk)
  have HB : Hid (∀ W, Kept [] w W → BytesAt W (.slice ao0 xs.length c0) xs) := fun W hk => hb0.kept hk (fun _ _ => by simp)
  have hlend := Lend_any _ xs W0 (HB.out _ k0) (by omega)
  have hd0 : xs ≠ [] → ∀ b, blkOf (.slice ao0 xs.length c0) = some b → b < w.heap.size := by
    intro hne b hb
    obtain ⟨_, _, he, _, _, hcc⟩ := hb0
    injection he with e1 e2 e3
    subst e1
    obtain ⟨b', off', rfl, hh⟩ := hcc hne
    simp [blkOf] at hb
    subst hb
    cases xs with
    | nil => exact absurd rfl hne
    | cons x t => exact World.block_lt_of_cell? w _ (hh 0 x rfl)
  have HD : Hid _ := hd0
  clear hd0 hops hgd hb0
  rw [hW0] at hlend k0 sb0
  go_enter Try.func6, Try.ntmps6
  go_wp2_with fail
  go_at_call 23
  refine hlend.mono ?_
  rintro e w1 ⟨gl, cap, rfl, hl, hk1⟩
  rw [← hW0] at hl hk1 k0 sb0
  have kw1 := k0.then hk1
  have sb1 := hk1.heap sb0 (by simp)
  have hsc1 : ∀ o, w1.cell? ⟨w.heap.size, o, none⟩ = _ := fun o => cell_of_row _ _ _ _ _ _ sb1
  obtain ⟨q1, q2, q3, q4⟩ := hl.room
  have hother := Other_any _ xs w1 (HB.out _ kw1) (by omega) ho0
  have HL1 : Hid (Lent w1 (w.heap.size + 1) gl cap xs) := z0 ▸ hl
  have HS1 : Hid _ := sb1
  have HK1 : Hid _ := kw1
  clear hl hk1 hlend sb1 kw1 sb0 k0
  go_wp2_with fail
  go_at_call 31
  refine hother.mono ?_
  rintro e w2 ⟨u, zs, rfl, hu, hlz, hoz, hk2⟩
  obtain ⟨aou, cu, rfl⟩ := own_shape hu
  have HLz : Hid (zs.length = xs.length) := hlz
  have hnew := New_any w2 w2.heap.size (Nat.le_refl _)
  have z2 := hk2.size
  have HK2 : Hid _ := HK1.out.then hk2
  have HL2 : Hid (Lent w2 (w.heap.size + 1) gl cap xs) := Lent.kept HL1.out hk2 (by simp)
  have HS2 : Hid _ := hk2.heap HS1.out (by simp)
  have HU2 : Hid (OwnB w2 w1.heap.size (.slice aou zs.length cu) zs) := hu
  clear hother hu hk2 HK1 HL1 HS1 hsc1 hlz
  go_wp2_with fail
  go_at_call 10
  refine hnew.mono ?_
  rintro e w3 ⟨rfl, hwa, hk3⟩
  have P3 : Pl w w3 #[.slice ao0 xs.length c0, .slice ao1 l1 c1, .slice ao2 ops.length c2] gl cap xs (.slice aou zs.length cu) zs w2.heap.size w1.heap.size w2.heap.size (· < w3.heap.size) [] :=
    ⟨HK2.out.then hk3, hk3.heap HS2.out (by simp), by omega, z2, hk3.size, Lent.kept HL2.out hk3 (by simp), by omega, q4, OwnB.kept HU2.out hk3 (by simp), fun k hk => World.ownsRow.lt HU2.out k hk, ⟨_, hwa, fun x hx => (hwa.lt x hx).2⟩⟩
  generalize w2.heap.size = wb at *
  generalize w1.heap.size = m1 at *
  clear hwa hk3 HK2 HL2 HS2 hnew q1 q2 q3 q4 z2
  have hsc3 := P3.script
  have HBlk : Hid (∀ b, blkOf (.slice aou zs.length cu) = some b → (Value.slice aou zs.length cu).ownBlock = some b) := by
    intro b hb
    cases aou with
    | none => simp [blkOf] at hb
    | some a => exact hb
  have HP3 : Hid (Pl w w3 #[.slice ao0 xs.length c0, .slice ao1 l1 c1, .slice ao2 ops.length c2] gl cap xs (.slice aou zs.length cu) zs wb m1 wb (· < w3.heap.size) []) := P3
  clear P3
  go_wp2_with fail
  go_at_call 32
  refine (HRead.out _ _ _ xs HP3.out.kept HP3.out.lent.bytes (HB.out _ HP3.out.kept) ho0 rfl).mono ?_
  rintro e w4 ⟨rfl, hk4⟩
  have P4 := HP3.out.on hk4
  obtain ⟨S4, hwa4, hS4⟩ := P4.wr
  have hby := WBytes_any hwa4 P4.b3 _ xs P4.lent.bytes (by
    intro _ b hb hbS
    simp [blkOf] at hb
    subst hb
    have := (hwa4.lt _ hbS).1
    have := P4.gl1
    have := P4.b2
    omega) ho0 (by simp; omega)
  have HP4 : Hid _ := P4
  have HW4 : Hid (∀ x, x ∈ S4 → wb ≤ x) := fun x hx => (hwa4.lt x hx).1
  clear P4 hwa4 hS4 hk4 hsc3 HP3
  go_wp2_with fail
  go_at_call 13
  refine hby.mono ?_
  rintro e w5 ⟨rfl, hw5⟩
  have P5 := HP4.out.wrote (A' := (· < w5.heap.size)) HW4.out hw5 (fun _ _ h => h)
  have hrd := Read_any _ xs w5 P5.lent.bytes (by omega) ho0
  have HP5 : Hid _ := P5
  clear P5 hw5 HP4 HW4 hby
  go_wp2_with fail
  go_at_call 15
  refine hrd.mono ?_
  rintro e w6 ⟨r, g, rfl, R6, hk6, hr, hg⟩
  have P6 := HP5.out.on hk6
  have e3 := HP5.out.b3
  have e2 := HP5.out.b2
  have e1 := HP5.out.gl1
  have e0 := HP5.out.gl0
  have hin := Into_any P6.lent P6.own.bytes (by
    intro _ b hb
    have := P6.ub b (HBlk.out b hb)
    simp
    omega) HLz.out.symm (by have := HLz.out; omega)
  have HP6 : Hid _ := P6
  have HR6 : Hid _ := R6
  have HRG : Hid (w5.heap.size ≤ r ∧ w5.heap.size ≤ g) := ⟨hr, hg⟩
  clear P6 R6 hk6 hrd HP5 hr hg
  go_wp2_with fail
  go_at_call 33
  refine hin.mono ?_
  rintro e w7 ⟨rfl, hl7, hk7⟩
  have P7 := HP6.out.into hk7 hl7
  have R7 := HR6.out.kept hk7 (by have := HRG.out; simp; omega) (by have := HRG.out; simp; omega)
  have hb7 : BytesAt w7 (.slice (some ⟨gl, 0, none⟩) xs.length cap) zs := by have := P7.lent.bytes; rwa [HLz.out] at this
  have hrd2 := HRead.out _ _ _ zs P7.kept hb7 P7.own.bytes hoz HLz.out
  have hsc7 := P7.script
  have HP7 : Hid _ := P7
  have HR7 : Hid _ := R7
  clear P7 R7 hl7 hk7 hin HP6 HR6 hb7
  go_wp2_with fail
  go_at_call 32
  refine hrd2.mono ?_
  rintro e w8 ⟨rfl, hk8⟩
  have P8 := HP7.out.on hk8
  have R8 := HR7.out.kept hk8 (by simp) (by simp)
  have hb8 : BytesAt w8 (.slice (some ⟨gl, 0, none⟩) xs.length cap) zs := by have := P8.lent.bytes; rwa [HLz.out] at this
  obtain ⟨S8, hwa8, hS8⟩ := P8.wr
  have hraw := WRaw_any hwa8 P8.b3 _ zs hb8 hoz (by have := HLz.out; simp; omega)
  have HP8 : Hid _ := P8
  have HR8 : Hid _ := R8
  have HW8 : Hid (∀ x, x ∈ S8 → wb ≤ x) := fun x hx => (hwa8.lt x hx).1
  have HS8 : Hid (∀ x, x ∈ S8 → x < w5.heap.size) := hS8
  have HL8 : Hid (r < w8.heap.size) := lt_of_block R8.blk
  clear P8 R8 hk8 HP7 HR7 hrd2 hb8 hwa8 hS8 hsc7
  go_wp2_with fail
  go_at_call 34
  refine hraw.mono ?_
  rintro e w9 ⟨rfl, hw9⟩
  have P9 := HP8.out.wrote (A' := (· ≠ r)) HW8.out hw9 (by
    intro x hx _
    have := HRG.out
    have := HL8.out
    rcases hx with h | h
    · have := HS8.out x h
      show x ≠ r
      omega
    · show x ≠ r
      omega)
  have R9 : Rdr w9 r g xs 0 0 := by
    obtain ⟨_, _, k9, _⟩ := hw9
    have := HRG.out
    exact HR8.out.kept k9 (fun h => by have := HS8.out _ h; omega) (fun h => by have := HS8.out _ h; omega)
  have hin2 := Into_any P9.lent (HB.out _ P9.kept) (by
    intro hne b hb
    have := HD.out hne b hb
    simp
    omega) HLz.out (by omega)
  rw [HLz.out] at hin2
  have hsc9 := P9.script
  have HP9 : Hid _ := P9
  have HR9 : Hid _ := R9
  clear P9 R9 hw9 HP8 HR8 HW8 HS8 HL8 hraw
  go_wp2_with fail
  go_at_call 33
  refine hin2.mono ?_
  rintro e w10 ⟨rfl, hl10, hk10⟩
  have P10 := HP9.out.into hk10 hl10
  have R10 := HR9.out.kept hk10 (by have := HRG.out; simp; omega) (by have := HRG.out; simp; omega)
  have hsc10 := P10.script
  have HP10 : Hid _ := P10
  have HR10 : Hid _ := R10
  clear P10 R10 hl10 hk10 HP9 HR9 hin2 hsc9
  have hrd3 := HRead.out w10.drew (.slice (some ⟨gl, 0, none⟩) xs.length cap) _ xs (HP10.out.kept.drew) (HP10.out.on (Kept.refl _ _).drew).lent.bytes (HB.out _ HP10.out.kept.drew) ho0 rfl
  obtain ⟨y, hy⟩ : ∃ y, Hid (y = takeL xs 0 0 3 (zs.length : Int) 0) := ⟨_, rfl⟩
  have hyt : y.text = xs := by
    have hlz := HLz.out
    rw [hy.out, takeL_raw xs 0 zs.length (by omega) (by omega)]
    simp [hlz]
  have hyl : y.text.length = xs.length := by rw [hyt]
  go_wp2_with fail
  go_cut [72] from 54 to 72 (fun s72 wx => s72 = .bool false ∧ Hid (Pl w wx #[.slice ao0 xs.length c0, .slice ao1 l1 c1, .slice ao2 ops.length c2] gl cap xs (.slice aou zs.length cu) zs wb m1 wb (· ≠ r) ([] ++ varB xs.length ++ xs ++ zs)))
  case first =>
   go_region_with (first
    | (go_at_call 32; refine hrd3.mono ?_; rintro e w11 ⟨rfl, hk11⟩
       have P11 := HP10.out.on hk11.undraw
       have R11 := HR10.out.kept hk11.undraw (by simp) (by simp)
       have hsc11 := P11.script
       have HP11 : Hid _ := P11
       have HR11 : Hid _ := R11
       clear P11 R11 hk11)
    | (go_at_call 35; refine (Raw_any HR11.out (zs.length : Int) (by have := HLz.out; omega) y hy).mono ?_; rintro e w12 ⟨q, rfl, hq, hq0, _, hk12⟩
       have P12 := HP11.out.past (by have := HRG.out; omega) hk12
       have hsc12 := P12.script
       have HQ : Hid _ := hq
       have HP12 : Hid _ := P12
       clear hq hk12 P12)
    | (go_at_call 17; refine (Eq_same (ys := xs) (by have h := row_bytes HQ.out; rw [hyt] at h; exact h) (HB.out _ HP12.out.kept) (by omega)).mono ?_; rintro e w13 ⟨rfl, n13, rfl⟩; have HP13 : Hid (Pl w (w12.drewN n13) _ gl cap xs (.slice aou zs.length cu) zs wb m1 wb (· ≠ r) ([] ++ varB xs.length ++ xs ++ zs)) := HP12.out.on ((Kept.refl _ _).drewN _)))
   all_goals (go_wp2_with fail; go_meet; exact ⟨rfl, HP13⟩)
  case rest =>
  obtain ⟨rfl, HP⟩ := hcut
  generalize hus : [] ++ varB (xs.length : Int) ++ xs ++ zs = us at HP
  have hul : us.length ≤ 140737488355328 := by have := HLz.out; rw [← hus]; simp; omega
  have HUS : Hid (varB (xs.length : Int) ++ xs ++ zs = us) := by rw [← hus, List.nil_append]; exact rfl
  clear hus
  clear HP10 HR10 hrd3 hy hyt hyl hsc10
  have hsc := HP.out.script
  have P := HP.out.on (Kept.refl [] _).drew
  obtain ⟨S, hwa, _⟩ := P.wr
  have hout := WOut_any hwa hul
  clear P hwa
  go_wp2_with fail
  go_region_law (first
    | (go_simp; go_at_call 18; refine hout.mono ?_; rintro e w14 ⟨rfl, hq, hk14⟩
       have P14 := HP.out.on hk14.undraw
       have hsc14 := P14.script
       have htx := RText_any _ xs w14 (HB.out _ P14.kept) (by omega)
       have HQ : Hid (w14.heap[wc.drew.heap.size]? = some (.cells (us.map (Value.int .u8)).toArray 5 (0, 0))) := hq
       have HP14 : Hid _ := P14
       clear hq hk14 P14)
    | (go_simp; go_at_call 14; refine htx.mono ?_; rintro e w15 ⟨u2, rfl, hu2, hk15⟩
       have P15 := HP14.out.on hk15
       have hbz := P15.own.bytes
       have hsc15 := P15.script
       have HU : Hid (OwnB w15 w14.heap.size u2 (varB xs.length ++ xs)) := hu2
       have HK15 : Hid (Kept [] w14 w15) := hk15
       clear P15 hu2 hk15 htx)
    | (refine step_append_bytes (by rfl) (.tmp 78) (.tmp 79) (by rfl) (by rfl) HU.out (by rfl) hbz (by have := HLz.out; simp; omega) HK15.out.size ?_; intro v16 w16 ha
       have hk16 : Kept [] w14 w16 := ha.keep w14 [] HK15.out (fun k hk => Or.inr (World.ownsRow.lt HU.out k hk).1)
       have P16 := HP14.out.on hk16
       have hEq : Calls Try.prog 17 #[.slice (some ⟨wc.drew.heap.size, 0, none⟩) us.length us.length, v16] w16 fun e w' => e = .returned (.bool true) ∧ ∃ n, w' = w16.drewN n := Eq_same (row_bytes (hk16.heap HQ.out (by simp))) (by have h := ha.own.bytes; rw [HUS.out] at h; exact h) hul
       have HK16 : Hid (Kept [] w w16) := P16.kept
       clear P16 hk16 ha hbz)
    | (go_simp; go_at_call 17; refine hEq.mono ?_; rintro e w17 ⟨rfl, n17, rfl⟩))
  all_goals go_wp2
  all_goals go_ret
  all_goals exact ⟨rfl, HK16.out.drewN _⟩
end Go.Proofs.Ytkhcofdcokngkaa
