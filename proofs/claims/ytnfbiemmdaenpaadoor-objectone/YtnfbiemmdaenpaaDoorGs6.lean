/-
  WALK: satchelref3.guess of a tree.
-/
import Derived.Test.YtnfbiemmdaenpaaDoorGs5
import Derived.Test.YtnfbiemmdaenpaaDoorEnt3
namespace Go.Proofs.YtnfbiemmdaenpaaDoor
open Go.RowKit

/-- One entry guessed, and the place behind it. -/
def gEnt (xs : List Int) (p : Nat) : EntL := ⟨xAt xs p, txtG xs (plus xs p 1), takeX xs (txtE xs (plus xs p 1)) 32⟩
def gEntE (xs : List Int) (p : Nat) : Nat := plus xs (txtE xs (plus xs p 1)) 32
/-- So many entries at most, while bytes are left. -/
def gEnts (xs : List Int) : Nat → Nat → List EntL × Nat
  | 0, p => ([], p)
  | n + 1, p => if p < xs.length then (gEnt xs p :: (gEnts xs n (gEntE xs p)).1, (gEnts xs n (gEntE xs p)).2) else ([], p)
theorem gEnts_end (xs : List Int) (n p : Nat) (h : n = 0 ∨ xs.length ≤ p) : gEnts xs n p = ([], p) := by
  cases n with
  | zero => rfl
  | succ n =>
    unfold gEnts
    rw [if_neg (by omega)]
theorem gEnts_next (xs : List Int) (n p : Nat) (hn : 0 < n) (h : p < xs.length) : gEnts xs n p = (gEnt xs p :: (gEnts xs (n - 1) (gEntE xs p)).1, (gEnts xs (n - 1) (gEntE xs p)).2) := by
  obtain ⟨m, rfl⟩ : ∃ m, n = m + 1 := ⟨n - 1, by omega⟩
  conv => lhs; unfold gEnts
  rw [if_pos h, Nat.add_sub_cancel]
theorem set_ev (o : ObjL) (ev : Value) : o.row.toArray.setIfInBounds 2 ev = ({ o with ev := ev } : ObjL).row.toArray := rfl
theorem txtG_octs {xs : List Int} (h : Octs xs) (p : Nat) : Octs (txtG xs p) := fun u hu => h u (List.mem_of_mem_drop (List.mem_of_mem_take hu))
/-- guess of a tree among its entries. -/
structure ESt (w W : World) (ob : Nat) (v : Value) (xs : List Int) (p2 n : Nat) (o1 : ObjL) (k : Nat) (ev : Value) (es : List EntL) (p : Nat) : Prop where
  gu : Gu w W ob v xs p { o1 with ev := ev }
  own : W.ownsRow (ob + 1) 74 34 ev k (es.map EntL.row).flatten
  len : es.length = k
  good : ∀ e, e ∈ es → e.Good
  spec : gEnts xs n p2 = (es ++ (gEnts xs (n - k) p).1, (gEnts xs (n - k) p).2)
  kp : k ≤ p
/-- The entries that bytes would be. -/
def gTree (xs : List Int) : List EntL := (gEnts xs (numG xs 1).1.toNat (plus xs 1 (numG xs 1).2)).1

set_option maxRecDepth 100000 in
set_option maxHeartbeats 4000000 in
theorem guessTree_any (v : Value) (xs : List Int) (w : World) (hv : BytesAt w v xs) (ho : Octs xs) (hl : xs.length ≤ 65536) (hk : xAt xs 0 = 2) (hne : xs ≠ []) :
    Calls Tryd.prog 29 #[v] w fun e w' => ∃ ev, e = .returned (.agg ({ kindO 2 with ev := ev, es := gTree xs } : ObjL).row.toArray) ∧ EntsAt w' ev (gTree xs) ∧ (∀ e, e ∈ gTree xs → e.Good) ∧ (∀ b, blkOf ev = some b → w.heap.size ≤ b) ∧ Kept [] w w' := by
  have hp1 : plus xs 0 1 = 1 := by unfold plus; have := List.length_pos_iff.2 hne; omega
  have HOct : Hid (Octs xs) := ho
  obtain ⟨ao, cap, rfl, hcap, hnil⟩ : ∃ ao cap, v = .slice ao xs.length cap ∧ xs.length ≤ cap ∧ (ao = none → cap = 0) := by obtain ⟨ao, cap, h1, h2, h3, _⟩ := hv; exact ⟨ao, cap, h1, h2, h3⟩
  have hg0 := GAt.start hv ho hl
  have h1 := one_any hg0
  rw [hk, hp1] at h1
  have hun := Tryd.underlying33
  have hkz : (kindO 2).row.toArray.size = 76 := by rw [List.size_toArray]; rfl
  have hks : (Tryd.prog.info? 33).map (·.size) = some (kindO 2).row.toArray.size := by rw [hkz]; kernel_rfl
  have hkzz : Tryd.zeroCells33.size = (kindO 2).row.toArray.size := by rw [hkz]; kernel_rfl
  have hk1 : (kindO 2).row.toArray.all (·.oneCell') = true := by kernel_rfl
  have hbl := built_kind 2
  have HST : Hid (∀ w1, Kept [w.heap.size + 1] ((w.alloc (.cells Tryd.zeroCells33 33)).alloc (.cells #[.slice ao xs.length cap, .int .i64 0] 101)) w1 → GAt w1 (w.heap.size + 1) (.slice ao xs.length cap) xs 1 → Gu w (w1.alloc (.cells (kindO 2).row.toArray 33)) w1.heap.size (.slice ao xs.length cap) xs 1 (kindO 2)) := fun w1 k0 g => Gu.start hv k0 g
  have HK : Hid (∃ X, X = (kindO 2).row.toArray) := ⟨_, rfl⟩
  generalize hkr : (kindO 2).row.toArray = kr at *
  have HKR : Hid ((kindO 2).row.toArray = kr) := hkr
  have c0 : kr[0]? = some (.int .i64 2) := by rw [← hkr]; rfl
  clear hkr HK hg0 hk
  go_enter Tryd.func29, Tryd.ntmps29
  go_wp2_with fail
  go_at_call 49
  refine h1.mono ?_
  rintro e w1 ⟨rfl, g1, k1⟩
  have HG1 := HST.out w1 k1 g1
  have d0 : (w1.alloc (.cells kr 33)).cell? ⟨w1.heap.size, 0, none⟩ = some (.int .i64 2) := by rw [cell_of_row _ _ _ _ _ _ (heap_alloc_new w1 _)]; exact c0
  clear h1 HST g1 k1
  have hsz1 : w1.heap.size = w1.heap.size := rfl
  clear hsz1
  go_upto_region 7 with (first
    | (refine wpList_build_some (by rfl) 33 _ (by rfl) kr (by simp; exact hbl) ?_)
    | (refine wpList_store_new (by rfl) 33 (.tmp 4) (.tmp 16) (by rfl) w1 _ kr (by rfl) (by rfl) hks hkzz hk1 ?_))
  generalize w1.alloc (.cells kr 33) = W0 at *
  generalize w1.heap.size = ob at *
  obtain ⟨p0, hp0⟩ : ∃ p : Nat, p = 1 := ⟨_, rfl⟩
  obtain ⟨o0, ho0⟩ : ∃ o : ObjL, o = kindO 2 := ⟨_, rfl⟩
  have HG0 : Gu w W0 ob (.slice ao xs.length cap) xs p0 o0 := by rw [hp0, ho0]; exact HG1
  have hcl0 : o0.com.tree.length = 32 := by rw [ho0]; rfl
  have htl0 : o0.tag.target.length = 32 := by rw [ho0]; rfl
  have HP0 : Hid (p0 = 1) := hp0
  have HO0 : Hid (o0 = kindO 2) := ho0
  clear HG1 hp0 ho0 d0 HKR c0 hbl hk1 hkzz hks hkz
  have hnum := gnum_any HG0.gat
  have hnb := numG_bound xs p0
  obtain ⟨n, hn⟩ : ∃ n : Nat, (numG xs p0).1 = (n : Int) := ⟨(numG xs p0).1.toNat, by omega⟩
  obtain ⟨q2, hq2⟩ : ∃ q : Nat, q = plus xs p0 (numG xs p0).2 := ⟨_, rfl⟩
  rw [hn, ← hq2] at hnum
  rw [hn] at hnb
  have HNN : Hid ((numG xs p0).1 = (n : Int)) := hn
  have HQ2 : Hid (q2 = plus xs p0 (numG xs p0).2) := hq2
  have HU1 : Hid (Gu w W0 ob (.slice ao xs.length cap) xs p0 o0) := HG0
  have HPV0 : Hid (o0.ev = .slice none 0 0) := by show _ = _; rw [HO0.out]; rfl
  have hlen := hl
  clear HG0 hn hq2
  go_wp2_with fail
  go_at_call 50
  refine hnum.mono ?_
  rintro e w2 ⟨rfl, g2, k2⟩
  have HC0 : Hid (ESt w w2 ob (.slice ao xs.length cap) xs q2 n o0 0 (.slice none 0 0) [] q2) := ⟨by rw [← HPV0.out]; exact HU1.out.next k2 g2, World.ownsRow_nil _ _ _ _, rfl, (fun x hx => by cases hx), rfl, Nat.zero_le _⟩
  clear hnum g2 k2 HU1
  have hT27 := Tryd.underlying23
  go_wp2
  go_loopw [6] (fun s6 wr => ∃ k : Nat, k ≤ n ∧ s6 = .int .i64 k ∧ Hid (∃ ev es p, ESt w wr ob (.slice ao xs.length cap) xs q2 n o0 k ev es p)) (fun s6 _ => n - (intOf s6).toNat)
  case atStart => exact ⟨0, Nat.zero_le _, rfl, _, _, _, HC0.out⟩
  case round =>
    clear HC0
    obtain ⟨k, hk, rfl, HCx⟩ := hrel
    obtain ⟨ev, es, p, C⟩ := HCx.out
    clear HCx
    have e1 : wr.cell? ⟨w.heap.size + 1, 1, none⟩ = some (.int .i64 (p : Int)) := by rw [cell_of_row _ _ _ _ _ _ C.gu.gat.box]; rfl
    have HC : Hid (ESt w wr ob (.slice ao xs.length cap) xs q2 n o0 k ev es p) := C
    have hple := C.gu.gat.le
    have hkp := C.kp
    clear C
    by_cases hkn : k < n
    · have t1 : decide ((k : Int) < (n : Int)) = true := decide_eq_true (by omega)
      by_cases hpl : p < xs.length
      · have t2 : decide ((p : Int) < (xs.length : Int)) = true := decide_eq_true (by omega)
        obtain ⟨pao, pcap, rfl⟩ := ownsK_form HC.out.own
        have HNB : Hid (∀ g, (Value.slice pao k pcap).ownBlock = some g → ob < g) := fun g hg => (World.ownsRow.lt HC.out.own g hg).1
        have hxo := xAt_oct HOct.out p
        have h1 := one_any HC.out.gu.gat
        obtain ⟨m7, hm7⟩ : ∃ x : Int, x = xAt xs p := ⟨_, rfl⟩
        obtain ⟨p3, hp3⟩ : ∃ q : Nat, q = plus xs p 1 := ⟨_, rfl⟩
        rw [← hm7, ← hp3] at h1
        rw [← hm7] at hxo
        have HM7 : Hid (m7 = xAt xs p) := hm7
        have HP3 : Hid (p3 = plus xs p 1) := hp3
        have hp3b : k + 1 ≤ p3 := by rw [hp3]; unfold plus; omega
        clear hm7 hp3
        go_wp2_with fail
        go_at_call 49
        refine h1.mono ?_
        rintro e w3 ⟨rfl, g3, k3⟩
        have G3 := HC.out.gu.next k3 g3
        have own3 := ownsK_on HC.out.own k3 (fun g hg => by have h1 := HNB.out g hg; have h2 := HC.out.gu.lo; simp; omega)
        have h2 := gtext_any G3.gat
        obtain ⟨nm, hnm⟩ : ∃ x : List Int, x = txtG xs p3 := ⟨_, rfl⟩
        obtain ⟨p4, hp4⟩ : ∃ q : Nat, q = txtE xs p3 := ⟨_, rfl⟩
        rw [← hnm, ← hp4] at h2
        have hp4b : p3 ≤ p4 := by
          have := plus_le xs p3 (numG xs p3).2
          have := G3.gat.le
          rw [hp4]; unfold txtE txtP plus; omega
        have HNM : Hid (nm = txtG xs p3) := hnm
        have HP4 : Hid (p4 = txtE xs p3) := hp4
        clear hnm hp4
        have HG3 : Hid (Gu w w3 ob (.slice ao xs.length cap) xs p3 { o0 with ev := .slice pao k pcap }) := G3
        have HOW3 : Hid (w3.ownsRow (ob + 1) 74 34 (.slice pao k pcap) k (es.map EntL.row).flatten) := own3
        clear h1 g3 k3 G3 own3
        go_wp2_with fail
        go_at_call 51
        refine h2.mono ?_
        rintro e w4 ⟨rfl, g4, k4⟩
        have G4 := HG3.out.next k4 g4
        have own4 := ownsK_on HOW3.out k4 (fun g hg => by have h1 := HNB.out g hg; have h2 := HC.out.gu.lo; simp; omega)
        have kd : Kept [] w4 w4.drew := (Kept.refl _ _).drew
        have Gd := G4.on kd
        have hid := gid_any Gd.gat
        obtain ⟨x, hx⟩ : ∃ x : List Int, x = takeX xs p4 32 := ⟨_, rfl⟩
        obtain ⟨p', hp'⟩ : ∃ q : Nat, q = plus xs p4 32 := ⟨_, rfl⟩
        rw [← hx, ← hp'] at hid
        have hxl : x.length = 32 := by rw [hx]; exact takeX_len _ _ _
        have hpp : k + 1 ≤ p' := by have := G4.gat.le; rw [hp']; unfold plus; omega
        have HEN : Hid (gEnt xs p = ⟨m7, nm, x⟩ ∧ gEntE xs p = p') := by
          unfold gEnt gEntE
          rw [← HP3.out, ← HP4.out, ← HM7.out, ← HNM.out, ← hx, ← hp']
          exact ⟨rfl, rfl⟩
        have HEG : Hid ((EntL.mk m7 nm x).Good) := ⟨by show -9223372036854775808 ≤ m7; omega, by show m7 ≤ 9223372036854775807; omega, ⟨by show Octs nm; rw [HNM.out]; exact txtG_octs HOct.out p3, by show nm.length ≤ _; rw [HNM.out, txtG_len]; unfold txtN; omega⟩, ⟨hxl, by show Octs x; rw [hx]; exact takeX_octs HOct.out p4 32⟩⟩
        have HGd : Hid (Gu w w4.drew ob (.slice ao xs.length cap) xs p4 { o0 with ev := .slice pao k pcap }) := Gd
        have c2d : w4.drew.cell? ⟨ob, 2, none⟩ = some (.slice pao k pcap) := (obj_cells (o := { o0 with ev := .slice pao k pcap }) hcl0 Gd.blk).2.2.1
        have HOWd : Hid (w4.drew.ownsRow (ob + 1) 74 34 (.slice pao k pcap) k (es.map EntL.row).flatten) := ownsK_on own4 kd (fun _ _ => by simp)
        have hke : k ≤ 1000000 := by omega
        obtain ⟨er, her⟩ : ∃ er, er = (EntL.mk m7 nm x).row := ⟨_, rfl⟩
        have hil : er.length = 34 := by rw [her]; exact EntL.row_len HEG.out.id
        have hone : ∀ u, u ∈ er → u.oneCell' = true := fun u hu => by
          have := ent_one (EntL.mk m7 nm x)
          rw [Array.all_eq_true'] at this
          exact this u (by rw [her] at hu; simpa using hu)
        have HER : Hid ((EntL.mk m7 nm x).row = er) := her.symm
        have HIX : Hid (idC x = (idRow x).toArray) := rfl
        have hirl : (idRow x).length = 32 := by unfold idRow; rw [List.length_map, hxl]
        rw [HIX.out] at hid
        have HRW : Hid (er = .int .i64 m7 :: .string (strOfNums nm) :: idRow x) := her
        clear hx hp' Gd kd G4 own4 g4 k4 h2 her HG3 HOW3
        have HA1 : Hid (∀ w5, Kept [w.heap.size + 1] w4.drew w5 → GAt w5 (w.heap.size + 1) (.slice ao xs.length cap) xs p' → w5.cell? ⟨ob, 2, none⟩ = some (.slice pao k pcap) ∧ (w5.alloc (.cells er.toArray 74)).cell? ⟨ob, 2, none⟩ = some (.slice pao k pcap) ∧
            (w5.alloc (.cells er.toArray 74)).ownsRow (ob + 1) 74 34 (.slice pao k pcap) k (es.map EntL.row).flatten ∧ (w5.alloc (.cells er.toArray 74)).rangeAt w5.heap.size 0 er ∧ ob + 1 ≤ (w5.alloc (.cells er.toArray 74)).heap.size ∧
            Hid (Gu w (w5.alloc (.cells er.toArray 74)) ob (.slice ao xs.length cap) xs p' { o0 with ev := .slice pao k pcap })) := fun w5 k5 g5 => by
          have G5 := HGd.out.next k5 g5
          have c2a : w5.cell? ⟨ob, 2, none⟩ = some (.slice pao k pcap) := (obj_cells (o := { o0 with ev := .slice pao k pcap }) hcl0 G5.blk).2.2.1
          have kA : Kept [] w5 (w5.alloc (.cells er.toArray 74)) := (Kept.refl _ _).alloc _
          refine ⟨c2a, kA.cell c2a (by simp), ownsK_on (ownsK_on HOWd.out k5 (fun g hg => ?_)) kA (fun _ _ => by simp), row_range (heap_alloc_new w5 _), ?_, G5.on kA⟩
          · have h1 := HNB.out g hg
            have h2 := HGd.out.lo
            simp
            omega
          · have h1 := (Array.getElem?_eq_some_iff.1 G5.blk).1
            rw [World.size_alloc]
            omega
        have HA2 : Hid (∀ w6 pao7 pcap7 w7, Gu w w6 ob (.slice ao xs.length cap) xs p' { o0 with ev := .slice pao k pcap } → w7.ownsRow (ob + 1) 74 34 (.slice pao7 (k + 1) pcap7) (k + 1) ((es.map EntL.row).flatten ++ er) → Kept (Value.slice pao k pcap).ownBlock.toList w6 w7 →
            (∃ c, w7.cell? ⟨ob, 2, none⟩ = some c) ∧ w7.frozen? ⟨ob, 2, none⟩ = false ∧ Hid (ESt w (w7.setCell ⟨ob, 2, none⟩ (.slice pao7 (k + 1) pcap7)) ob (.slice ao xs.length cap) xs q2 n o0 (k + 1) (.slice pao7 (k + 1) pcap7) (es ++ [⟨m7, nm, x⟩]) p')) := fun w6 pao7 pcap7 w7 G6 h7 k7 => by
          have G7 := G6.keep k7 (fun x hx => HNB.out x (by simpa using hx))
          obtain ⟨d7, f7⟩ := G7.cell (i := 2) (by rw [objL_len (o := { o0 with ev := .slice pao k pcap }) hcl0 htl0]; decide)
          have kS7 : Kept [ob] w7 (w7.setCell ⟨ob, 2, none⟩ (.slice pao7 (k + 1) pcap7)) := (Kept.refl _ _).setCell (Or.inl (by simp)) _
          refine ⟨d7, f7, G7.put (set_ev { o0 with ev := .slice pao k pcap } _), ?_, by rw [List.length_append, HC.out.len]; rfl, fun y hy => ?_, ?_, hpp⟩
          · rw [List.map_append, List.flatten_append, List.map_singleton, List.flatten_singleton, HER.out]
            refine ownsK_on h7 kS7 (fun g hg => ?_)
            have h1 := (World.ownsRow.lt h7 g hg).1
            simp
            omega
          · rcases List.mem_append.1 hy with hy | hy
            · exact HC.out.good y hy
            · rw [List.mem_singleton.1 hy]; exact HEG.out
          · rw [HC.out.spec, gEnts_next xs (n - k) p (by omega) hpl, HEN.out.1, HEN.out.2, show n - k - 1 = n - (k + 1) by omega]
            simp
        have hfold1 := fold_two (idRow x) (.int .i64 m7) (.string (strOfNums nm)) (idRow zero32) (by rw [hirl]; rfl)
        rw [← HRW.out, show ((Value.int .i64 m7 :: Value.string (strOfNums nm) :: idRow zero32).toArray : Array Value) = #[Value.int .i64 m7, Value.string (strOfNums nm), Value.int .u8 0, Value.int .u8 0, Value.int .u8 0, Value.int .u8 0, Value.int .u8 0, Value.int .u8 0, Value.int .u8 0, Value.int .u8 0, Value.int .u8 0, Value.int .u8 0, Value.int .u8 0, Value.int .u8 0, Value.int .u8 0, Value.int .u8 0, Value.int .u8 0, Value.int .u8 0, Value.int .u8 0, Value.int .u8 0, Value.int .u8 0, Value.int .u8 0, Value.int .u8 0, Value.int .u8 0, Value.int .u8 0, Value.int .u8 0, Value.int .u8 0, Value.int .u8 0, Value.int .u8 0, Value.int .u8 0, Value.int .u8 0, Value.int .u8 0, Value.int .u8 0, Value.int .u8 0] from rfl] at hfold1
        have hfold2 := fold_all er zeroE.row (by rw [hil]; rfl)
        rw [show zeroE.row.toArray = #[Value.int .i64 0, Value.string ⟨#[]⟩, Value.int .u8 0, Value.int .u8 0, Value.int .u8 0, Value.int .u8 0, Value.int .u8 0, Value.int .u8 0, Value.int .u8 0, Value.int .u8 0, Value.int .u8 0, Value.int .u8 0, Value.int .u8 0, Value.int .u8 0, Value.int .u8 0, Value.int .u8 0, Value.int .u8 0, Value.int .u8 0, Value.int .u8 0, Value.int .u8 0, Value.int .u8 0, Value.int .u8 0, Value.int .u8 0, Value.int .u8 0, Value.int .u8 0, Value.int .u8 0, Value.int .u8 0, Value.int .u8 0, Value.int .u8 0, Value.int .u8 0, Value.int .u8 0, Value.int .u8 0, Value.int .u8 0, Value.int .u8 0] from rfl] at hfold2
        have hesz : er.toArray.size = 34 := by rw [List.size_toArray]; exact hil
        clear HNB HOWd HGd HC HEG HEN HRW HER HM7 HP3 HP4 HNM
        generalize hir : idRow x = ir at *
        clear hir
        generalize strOfNums nm = SN at *
        go_wp2_with fail
        go_region_law (first
          | (refine step_append_k rfl (.tmp 48) (.tmp 54) 23 74 (.agg zeroE.row.toArray) 34 56 hT27 Tryd.zeroEnt rfl (by decide) rfl (v := .slice pao k pcap) rfl own5 (q := w5.heap.size) (us := er) rfl hil rng5 hone hke (by decide) hB5 ?_; intro pv7 w7 h7 k7 b7
             obtain ⟨pao7, pcap7, rfl⟩ := ownsK_form h7
             obtain ⟨⟨cc7, dc7⟩, fc7, HC7⟩ := HA2.out _ pao7 pcap7 w7 HG6.out h7 k7
             clear h7 k7 b7)
          | (go_simp; go_at_call 52; (with_reducible refine hid.mono ?_); rintro e w5 ⟨rfl, g5, k5⟩
             obtain ⟨c2a, c2b, own5, rng5, hB5, HG6⟩ := HA1.out w5 k5 g5
             clear g5 k5))
        all_goals go_wp2
        all_goals go_roundw
        all_goals first
          | exact ⟨k + 1, by omega, by go_num, _, _, _, HC7.out⟩
          | (simp [intOf]; omega)
      · have t2 : decide ((p : Int) < (xs.length : Int)) = false := decide_eq_false (by omega)
        obtain ⟨pao, pcap, rfl⟩ := ownsK_form HC.out.own
        have HSP : Hid (gEnts xs n q2 = (es, p)) := by
          show _ = _
          rw [HC.out.spec, gEnts_end xs (n - k) p (by omega), List.append_nil]
        have HIL : Hid (es.length = k ∧ ∀ x, x ∈ es → x.Good) := ⟨HC.out.len, HC.out.good⟩
        have HNB : Hid (∀ b, blkOf (.slice pao k pcap) = some b → w.heap.size ≤ b) := fun b hb => by
          have h1 := (World.ownsRow.lt HC.out.own b (by rw [← own_blkG]; exact hb)).1
          have h2 := HC.out.gu.lo
          omega
        obtain ⟨o2, ho2⟩ : ∃ o : ObjL, o = { o0 with ev := .slice pao k pcap } := ⟨_, rfl⟩
        have HG2 : Gu w wr ob (.slice ao xs.length cap) xs p o2 := by rw [ho2]; exact HC.out.gu
        have hcl2 : o2.com.tree.length = 32 := by rw [ho2]; exact hcl0
        have htl2 : o2.tag.target.length = 32 := by rw [ho2]; exact htl0
        have hgt : gTree xs = es := by
          unfold gTree
          have y0 := HP0.out
          have y2 := HQ2.out
          have y3 := HNN.out
          rw [y0] at y2 y3
          rw [← y2, y3]
          show (gEnts xs n q2).1 = es
          rw [HSP.out]
        have HE : Hid (o2.row.toArray = ({ kindO 2 with ev := .slice pao k pcap, es := gTree xs } : ObjL).row.toArray ∧ gTree xs = es) := by
          refine ⟨?_, hgt⟩
          rw [ho2, HO0.out]
          rfl
        have hone : o2.row.toArray.all (·.oneCell') = true := by rw [HE.out.1]; exact objV_one rfl rfl rfl
        have HID : Hid (EntsAt (wr.setRow w.heap.size o2.row.toArray) (.slice pao k pcap) es) := by
          have hown := ownsK_on HC.out.own (T := [w.heap.size]) (w' := wr.setRow w.heap.size o2.row.toArray) ⟨rfl, rfl, rfl, by simp [World.setRow], fun j _ hn => setRow_other wr _ j _ (fun e => hn (by simp [e]))⟩ (fun g hg => by have h1 := (World.ownsRow.lt HC.out.own g hg).1; have h2 := HC.out.gu.lo; simp; omega)
          exact ownsK_rows (by decide) (fun r hr => by obtain ⟨x, hx, rfl⟩ := List.mem_map.1 hr; exact EntL.row_len (HIL.out.2 x hx).id) (by rw [List.length_map, HIL.out.1]; exact hown) (by rw [List.length_map, HIL.out.1]; omega)
        clear HC ho2 hgt
        generalize wr = W2 at *
        have hoz : o2.row.toArray.size = 76 := by rw [List.size_toArray]; exact objL_len hcl2 htl2
        have hos : (Tryd.prog.info? 33).map (·.size) = some o2.row.toArray.size := by rw [hoz]; kernel_rfl
        have hozz : Tryd.zeroCells33.size = o2.row.toArray.size := by rw [hoz]; kernel_rfl
        have HOB : Hid (W2.heap[ob]? = some (.cells o2.row.toArray 33 (0, 0))) := HG2.blk
        have HRS : Hid (W2.heap[w.heap.size]? = some (.cells Tryd.zeroCells33 33 (0, 0))) := HG2.res
        have HFin : Hid (Kept [] w (W2.setRow w.heap.size o2.row.toArray)) := kept_setRow HG2.kp (Nat.le_refl _) _
        clear HG2
        generalize hpr : o2.row.toArray = pr at *
        have HPr : Hid (o2.row.toArray = pr) := hpr
        clear hpr
        go_wp2_with (first
          | (refine wpList_load_row (by rfl) 33 (.tmp 4) (by rfl) ob (by rfl) 33 pr (0, 0) _ HOB.out hun rfl hos ?_)
          | (refine wpList_store_row (by rfl) 33 (.tmp 2) (.tmp 126) (by rfl) w.heap.size pr (by rfl) (by rfl) 33 _ HRS.out hos hozz hone ?_))
        refine bodyPost_ret (v := .agg pr) ?_ rfl ?_
        · rw [results_cell1 rfl]
          exact run_loadVar_row (P := Tryd.prog) _ w.heap.size 33 33 pr (0, 0) _ (setRow_heap _ _ _ _ _ _ HRS.out) hun rfl hos
        · exact ⟨_, by first | rw [← HE.out.1, HPr.out] | rw [← HE.out.1], by rw [HE.out.2]; exact HID.out, by rw [HE.out.2]; exact HIL.out.2, HNB.out, HFin.out⟩
    · have t1 : decide ((k : Int) < (n : Int)) = false := decide_eq_false (by omega)
      obtain ⟨pao, pcap, rfl⟩ := ownsK_form HC.out.own
      have HSP : Hid (gEnts xs n q2 = (es, p)) := by
        show _ = _
        rw [HC.out.spec, gEnts_end xs (n - k) p (by omega), List.append_nil]
      have HIL : Hid (es.length = k ∧ ∀ x, x ∈ es → x.Good) := ⟨HC.out.len, HC.out.good⟩
      have HNB : Hid (∀ b, blkOf (.slice pao k pcap) = some b → w.heap.size ≤ b) := fun b hb => by
        have h1 := (World.ownsRow.lt HC.out.own b (by rw [← own_blkG]; exact hb)).1
        have h2 := HC.out.gu.lo
        omega
      obtain ⟨o2, ho2⟩ : ∃ o : ObjL, o = { o0 with ev := .slice pao k pcap } := ⟨_, rfl⟩
      have HG2 : Gu w wr ob (.slice ao xs.length cap) xs p o2 := by rw [ho2]; exact HC.out.gu
      have hcl2 : o2.com.tree.length = 32 := by rw [ho2]; exact hcl0
      have htl2 : o2.tag.target.length = 32 := by rw [ho2]; exact htl0
      have hgt : gTree xs = es := by
        unfold gTree
        have y0 := HP0.out
        have y2 := HQ2.out
        have y3 := HNN.out
        rw [y0] at y2 y3
        rw [← y2, y3]
        show (gEnts xs n q2).1 = es
        rw [HSP.out]
      have HE : Hid (o2.row.toArray = ({ kindO 2 with ev := .slice pao k pcap, es := gTree xs } : ObjL).row.toArray ∧ gTree xs = es) := by
        refine ⟨?_, hgt⟩
        rw [ho2, HO0.out]
        rfl
      have hone : o2.row.toArray.all (·.oneCell') = true := by rw [HE.out.1]; exact objV_one rfl rfl rfl
      have HID : Hid (EntsAt (wr.setRow w.heap.size o2.row.toArray) (.slice pao k pcap) es) := by
        have hown := ownsK_on HC.out.own (T := [w.heap.size]) (w' := wr.setRow w.heap.size o2.row.toArray) ⟨rfl, rfl, rfl, by simp [World.setRow], fun j _ hn => setRow_other wr _ j _ (fun e => hn (by simp [e]))⟩ (fun g hg => by have h1 := (World.ownsRow.lt HC.out.own g hg).1; have h2 := HC.out.gu.lo; simp; omega)
        exact ownsK_rows (by decide) (fun r hr => by obtain ⟨x, hx, rfl⟩ := List.mem_map.1 hr; exact EntL.row_len (HIL.out.2 x hx).id) (by rw [List.length_map, HIL.out.1]; exact hown) (by rw [List.length_map, HIL.out.1]; omega)
      clear HC ho2 hgt
      generalize wr = W2 at *
      have hoz : o2.row.toArray.size = 76 := by rw [List.size_toArray]; exact objL_len hcl2 htl2
      have hos : (Tryd.prog.info? 33).map (·.size) = some o2.row.toArray.size := by rw [hoz]; kernel_rfl
      have hozz : Tryd.zeroCells33.size = o2.row.toArray.size := by rw [hoz]; kernel_rfl
      have HOB : Hid (W2.heap[ob]? = some (.cells o2.row.toArray 33 (0, 0))) := HG2.blk
      have HRS : Hid (W2.heap[w.heap.size]? = some (.cells Tryd.zeroCells33 33 (0, 0))) := HG2.res
      have HFin : Hid (Kept [] w (W2.setRow w.heap.size o2.row.toArray)) := kept_setRow HG2.kp (Nat.le_refl _) _
      clear HG2
      generalize hpr : o2.row.toArray = pr at *
      have HPr : Hid (o2.row.toArray = pr) := hpr
      clear hpr
      go_wp2_with (first
        | (refine wpList_load_row (by rfl) 33 (.tmp 4) (by rfl) ob (by rfl) 33 pr (0, 0) _ HOB.out hun rfl hos ?_)
        | (refine wpList_store_row (by rfl) 33 (.tmp 2) (.tmp 126) (by rfl) w.heap.size pr (by rfl) (by rfl) 33 _ HRS.out hos hozz hone ?_))
      refine bodyPost_ret (v := .agg pr) ?_ rfl ?_
      · rw [results_cell1 rfl]
        exact run_loadVar_row (P := Tryd.prog) _ w.heap.size 33 33 pr (0, 0) _ (setRow_heap _ _ _ _ _ _ HRS.out) hun rfl hos
      · exact ⟨_, by first | rw [← HE.out.1, HPr.out] | rw [← HE.out.1], by rw [HE.out.2]; exact HID.out, by rw [HE.out.2]; exact HIL.out.2, HNB.out, HFin.out⟩
end Go.Proofs.YtnfbiemmdaenpaaDoor
