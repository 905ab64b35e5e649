/-
  WALK: satchelref3.guess of a commit.
-/
import Derived.Test.YtnfbiemmdaenpaaDoorGs3
import Derived.Test.YtnfbiemmdaenpaaDoorAppK
import Derived.Test.YtnfbiemmdaenpaaDoorCom3
namespace Go.Proofs.YtnfbiemmdaenpaaDoor
open Go.RowKit

/-- So many ids at most, while bytes are left. -/
def gPars (xs : List Int) : Nat → Nat → List (List Int) × Nat
  | 0, p => ([], p)
  | n + 1, p => if p < xs.length then (takeX xs p 32 :: (gPars xs n (plus xs p 32)).1, (gPars xs n (plus xs p 32)).2) else ([], p)
theorem gPars_end (xs : List Int) (n p : Nat) (h : n = 0 ∨ xs.length ≤ p) : gPars xs n p = ([], p) := by
  cases n with
  | zero => rfl
  | succ n =>
    unfold gPars
    rw [if_neg (by omega)]
theorem gPars_next (xs : List Int) (n p : Nat) (hn : 0 < n) (h : p < xs.length) : gPars xs n p = (takeX xs p 32 :: (gPars xs (n - 1) (plus xs p 32)).1, (gPars xs (n - 1) (plus xs p 32)).2) := by
  obtain ⟨m, rfl⟩ : ∃ m, n = m + 1 := ⟨n - 1, by omega⟩
  conv => lhs; unfold gPars
  rw [if_pos h, Nat.add_sub_cancel]
theorem Gu.keep {w W W1 : World} {ob : Nat} {v : Value} {xs : List Int} {p : Nat} {o : ObjL} {T : List Nat} (h : Gu w W ob v xs p o) (k : Kept T W W1) (hT : ∀ x, x ∈ T → ob < x) : Gu w W1 ob v xs p o := by
  have hlo := h.lo
  have n1 : ∀ y, y ≤ ob → y ∉ T := fun y hy hm => by have := hT y hm; omega
  exact ⟨k.heap h.res (n1 _ (by omega)), h.gat.kept k (n1 _ (by omega)) (fun hne b hb => n1 b (by have := h.vb hne b hb; omega)), k.heap h.blk (n1 _ (Nat.le_refl _)), h.kp.trans k (fun x hx => Or.inr (by have := hT x hx; omega)), hlo, h.vb⟩
theorem obj_pv {w : World} {b : Nat} {o : ObjL} (hl : o.com.tree.length = 32) {ty : TypeId} {fr : Nat × Nat} (h : w.heap[b]? = some (.cells o.row.toArray ty fr)) : w.cell? ⟨b, 35, none⟩ = some o.pv := by
  obtain ⟨_, _, _, h3, _⟩ := obj_cells hl h
  have := h3 32 o.pv (by
    unfold ComL.row
    rw [List.getElem?_append_right (by rw [List.length_map, hl]; exact Nat.le_refl _), List.length_map, hl]
    rfl)
  exact this
theorem set_pv (o : ObjL) (pv : Value) (hl : o.com.tree.length = 32) : o.row.toArray.setIfInBounds 35 pv = ({ o with pv := pv } : ObjL).row.toArray := by
  rw [show 35 = 3 + 32 from rfl, set_com o hl 32 (by decide), show 32 = 32 + 0 from rfl, set_comL o.com o.pv hl]
  rfl
theorem ownsK_form {w : World} {B : Nat} {e : TypeId} {k : Nat} {v : Value} {n : Nat} {xs : List Value} (h : w.ownsRow B e k v n xs) : ∃ ao cap, v = .slice ao n cap := by
  obtain ⟨_, ⟨rfl, rfl⟩ | ⟨g, cap, cur, rfl, _⟩⟩ := h
  · exact ⟨none, 0, rfl⟩
  · exact ⟨_, cap, rfl⟩
theorem own_blkG (ao : Option Addr) (n cap : Nat) : blkOf (.slice ao n cap) = (Value.slice ao n cap).ownBlock := by cases ao <;> rfl
theorem ids_rowsAt {w : World} {v : Value} {ids : List (List Int)} (h : RowsAt w v 32 (ids.map idRow)) : IdsAt w v ids := by
  obtain ⟨ao, cap, hv, h1, h0, h2, hc⟩ := h
  rw [List.length_map] at hv h1 h2
  refine ⟨ao, cap, hv, h1, h0, h2, fun hne => ?_⟩
  obtain ⟨b, off, hb, hh⟩ := hc (by simpa using hne)
  exact ⟨b, off, hb, fun i x hx => hh i _ (by rw [List.getElem?_map, hx]; rfl)⟩
/-- guess of a commit among its parents. -/
structure CSt (w W : World) (ob : Nat) (v : Value) (xs : List Int) (p2 n : Nat) (o1 : ObjL) (k : Nat) (pv : Value) (ids : List (List Int)) (p : Nat) : Prop where
  gu : Gu w W ob v xs p { o1 with pv := pv }
  own : W.ownsRow (ob + 1) 25 32 pv k (ids.map idRow).flatten
  len : ids.length = k
  good : ∀ x, x ∈ ids → GoodID x
  spec : gPars xs n p2 = (ids ++ (gPars xs (n - k) p).1, (gPars xs (n - k) p).2)
  kp : k ≤ p

/-- The commit that bytes would be. -/
def gCom (xs : List Int) : ComL :=
  let p1 := plus xs 1 32
  let p2 := plus xs p1 (numG xs p1).2
  let r := gPars xs (numG xs p1).1.toNat p2
  let p4 := txtE xs r.2
  let p5 := plus xs p4 8
  ⟨takeX xs 1 32, r.1, txtG xs r.2, be (takeX xs p4 8), txtG xs p5⟩

set_option maxRecDepth 100000 in
set_option maxHeartbeats 4000000 in
theorem guessCom_any (v : Value) (xs : List Int) (w : World) (hv : BytesAt w v xs) (ho : Octs xs) (hl : xs.length ≤ 65536) (hk : xAt xs 0 = 3) (hne : xs ≠ []) :
    Calls Tryd.prog 29 #[v] w fun e w' => ∃ pv, e = .returned (.agg ({ kindO 3 with com := gCom xs, pv := pv } : ObjL).row.toArray) ∧ IdsAt w' pv (gCom xs).parents ∧ (∀ b, blkOf pv = some b → w.heap.size ≤ b) ∧ Kept [] w w' := by
  have hp1 : plus xs 0 1 = 1 := by unfold plus; have := List.length_pos_iff.2 hne; omega
  have HOct : Hid (Octs xs) := ho
  obtain ⟨ao, cap, rfl, hcap, hnil⟩ : ∃ ao cap, v = .slice ao xs.length cap ∧ xs.length ≤ cap ∧ (ao = none → cap = 0) := by obtain ⟨ao, cap, h1, h2, h3, _⟩ := hv; exact ⟨ao, cap, h1, h2, h3⟩
  have hg0 := GAt.start hv ho hl
  have h1 := one_any hg0
  rw [hk, hp1] at h1
  have hun := Tryd.underlying33
  have hkz : (kindO 3).row.toArray.size = 76 := by rw [List.size_toArray]; rfl
  have hks : (Tryd.prog.info? 33).map (·.size) = some (kindO 3).row.toArray.size := by rw [hkz]; kernel_rfl
  have hkzz : Tryd.zeroCells33.size = (kindO 3).row.toArray.size := by rw [hkz]; kernel_rfl
  have hk1 : (kindO 3).row.toArray.all (·.oneCell') = true := by kernel_rfl
  have hbl := built_kind 3
  have HST : Hid (∀ w1, Kept [w.heap.size + 1] ((w.alloc (.cells Tryd.zeroCells33 33)).alloc (.cells #[.slice ao xs.length cap, .int .i64 0] 101)) w1 → GAt w1 (w.heap.size + 1) (.slice ao xs.length cap) xs 1 → Gu w (w1.alloc (.cells (kindO 3).row.toArray 33)) w1.heap.size (.slice ao xs.length cap) xs 1 (kindO 3)) := fun w1 k0 g => Gu.start hv k0 g
  have HK : Hid (∃ X, X = (kindO 3).row.toArray) := ⟨_, rfl⟩
  generalize hkr : (kindO 3).row.toArray = kr at *
  have HKR : Hid ((kindO 3).row.toArray = kr) := hkr
  have c0 : kr[0]? = some (.int .i64 3) := by rw [← hkr]; rfl
  clear hkr HK hg0 hk
  go_enter Tryd.func29, Tryd.ntmps29
  go_wp2_with fail
  go_at_call 49
  refine h1.mono ?_
  rintro e w1 ⟨rfl, g1, k1⟩
  have HG1 := HST.out w1 k1 g1
  have d0 : (w1.alloc (.cells kr 33)).cell? ⟨w1.heap.size, 0, none⟩ = some (.int .i64 3) := by rw [cell_of_row _ _ _ _ _ _ (heap_alloc_new w1 _)]; exact c0
  clear h1 HST g1 k1
  have hsz1 : w1.heap.size = w1.heap.size := rfl
  clear hsz1
  go_upto_region 15 with (first
    | (refine wpList_build_some (by rfl) 33 _ (by rfl) kr (by simp; exact hbl) ?_)
    | (refine wpList_store_new (by rfl) 33 (.tmp 4) (.tmp 16) (by rfl) w1 _ kr (by rfl) (by rfl) hks hkzz hk1 ?_))
  generalize w1.alloc (.cells kr 33) = W0 at *
  generalize w1.heap.size = ob at *
  obtain ⟨p0, hp0⟩ : ∃ p : Nat, p = 1 := ⟨_, rfl⟩
  obtain ⟨o0, ho0⟩ : ∃ o : ObjL, o = kindO 3 := ⟨_, rfl⟩
  have HG0 : Gu w W0 ob (.slice ao xs.length cap) xs p0 o0 := by rw [hp0, ho0]; exact HG1
  have hcl0 : o0.com.tree.length = 32 := by rw [ho0]; rfl
  have htl0 : o0.tag.target.length = 32 := by rw [ho0]; rfl
  have HP0 : Hid (p0 = 1) := hp0
  have HO0 : Hid (o0 = kindO 3) := ho0
  clear HG1 hp0 ho0 d0 HKR c0 hbl hk1 hkzz hks hkz
  have hc0 := gid_any HG0.gat
  obtain ⟨x0, hx0⟩ : ∃ x : List Int, x = takeX xs p0 32 := ⟨_, rfl⟩
  obtain ⟨p1, hp1⟩ : ∃ p : Nat, p = plus xs p0 32 := ⟨_, rfl⟩
  rw [← hx0, ← hp1] at hc0
  have HX0 : Hid (x0 = takeX xs p0 32) := hx0
  have HP1 : Hid (p1 = plus xs p0 32) := hp1
  obtain ⟨o1, ho1⟩ : ∃ o : ObjL, o = { o0 with com := { o0.com with tree := x0 } } := ⟨_, rfl⟩
  have HO1 : Hid (o1 = { o0 with com := { o0.com with tree := x0 } }) := ho1
  have hl0 : x0.length = 32 := by rw [hx0]; exact takeX_len _ _ _
  have hcl1 : o1.com.tree.length = 32 := by rw [ho1]; exact hl0
  have htl1 : o1.tag.target.length = 32 := by rw [ho1]; exact htl0
  have HU0 : Hid (Gu w W0 ob (.slice ao xs.length cap) xs p0 o0) := HG0
  clear HG0
  go_wp2_with fail
  go_at_call 52
  refine hc0.mono ?_
  rintro e w1 ⟨rfl, g1, k1⟩
  have HN0 := HU0.out.next k1 g1
  have HTH0 : Hid (w1.there ob 3 32) := HN0.there (by rw [objL_len hcl0 htl0]; decide)
  have HZ0 : Hid (Gu w (w1.setCells ob 3 (x0.map (Value.int .u8))) ob (.slice ao xs.length cap) xs p1 o1) := HN0.putRow (by rw [List.length_map, hl0, objL_len hcl0 htl0]; decide) (by rw [ho1]; exact objL_tree o0 x0 hcl0 hl0)
  have hsi0 : (Tryd.prog.info? 25).map (·.size) = some (idC x0).size := by rw [idC_size hl0]; exact Tryd.infoID
  have hai0 : (idC x0).all (·.oneCell') = true := all_oneCell_toArray (map_oneCell _)
  have hiz0 : (idC x0).size = 32 := idC_size hl0
  have HL0 : Hid ((idC x0).toList = x0.map (Value.int .u8)) := rfl
  clear hc0 g1 k1 HN0 HU0 hx0 hp1 ho1
  go_upto_region 16 with (refine wpList_store_mid (by rfl) 25 (.tmp 62) (.tmp 60) (by rfl) ob 3 (idC x0) (by rfl) (by rfl) (by rw [hiz0]; exact HTH0.out) hsi0 hai0 ?_; rw [HL0.out])
  have HG1 := HZ0.out
  clear HZ0 HTH0 hsi0 hai0 hiz0 HL0
  generalize w1.setCells ob 3 (x0.map (Value.int .u8)) = W1 at *
  have hnum := gnum_any HG1.gat
  have hnb := numG_bound xs p1
  obtain ⟨n, hn⟩ : ∃ n : Nat, (numG xs p1).1 = (n : Int) := ⟨(numG xs p1).1.toNat, by omega⟩
  obtain ⟨q2, hq2⟩ : ∃ q : Nat, q = plus xs p1 (numG xs p1).2 := ⟨_, rfl⟩
  rw [hn, ← hq2] at hnum
  rw [hn] at hnb
  have HNN : Hid ((numG xs p1).1 = (n : Int)) := hn
  have HQ2 : Hid (q2 = plus xs p1 (numG xs p1).2) := hq2
  have HU1 : Hid (Gu w W1 ob (.slice ao xs.length cap) xs p1 o1) := HG1
  have HPV0 : Hid (o1.pv = .slice none 0 0) := by show _ = _; rw [HO1.out, HO0.out]; rfl
  have hlen := hl
  clear HG1 hn hq2
  go_wp2_with fail
  go_at_call 50
  refine hnum.mono ?_
  rintro e w2 ⟨rfl, g2, k2⟩
  have hobl : ob < w2.heap.size := (Array.getElem?_eq_some_iff.1 (HU1.out.next k2 g2).blk).1
  have HC0 : Hid (CSt w w2 ob (.slice ao xs.length cap) xs q2 n o1 0 (.slice none 0 0) [] q2) := ⟨by rw [← HPV0.out]; exact HU1.out.next k2 g2, World.ownsRow_nil _ _ _ _, rfl, (fun x hx => by cases hx), rfl, Nat.zero_le _⟩
  clear hnum g2 k2 HU1
  have hT30 := Tryd.underlying26
  have hbuild := run_build_k (t := 26) (e := 25) Tryd.underlying26 Tryd.zeroIDi (by decide) (by decide)
  go_wp2
  go_loopw [10] (fun s10 wr => ∃ k : Nat, k ≤ n ∧ s10 = .int .i64 k ∧ Hid (∃ pv ids p, CSt w wr ob (.slice ao xs.length cap) xs q2 n o1 k pv ids p)) (fun s10 _ => n - (intOf s10).toNat)
  case atStart => exact ⟨0, Nat.zero_le _, rfl, _, _, _, HC0.out⟩
  case round =>
    clear HC0
    obtain ⟨k, hk, rfl, HCx⟩ := hrel
    obtain ⟨pv, ids, p, C⟩ := HCx.out
    clear HCx
    have e1 : wr.cell? ⟨w.heap.size + 1, 1, none⟩ = some (.int .i64 (p : Int)) := by rw [cell_of_row _ _ _ _ _ _ C.gu.gat.box]; rfl
    have HC : Hid (CSt w wr ob (.slice ao xs.length cap) xs q2 n o1 k pv ids p) := C
    have hple := C.gu.gat.le
    have hkp := C.kp
    clear C
    by_cases hkn : k < n
    · have t1 : decide ((k : Int) < (n : Int)) = true := decide_eq_true (by omega)
      by_cases hpl : p < xs.length
      · have t2 : decide ((p : Int) < (xs.length : Int)) = true := decide_eq_true (by omega)
        obtain ⟨pao, pcap, rfl⟩ := ownsK_form HC.out.own
        have kd : Kept [] wr wr.drew := (Kept.refl _ _).drew
        have Gd := HC.out.gu.on kd
        have hid := gid_any Gd.gat
        obtain ⟨x, hx⟩ : ∃ x : List Int, x = takeX xs p 32 := ⟨_, rfl⟩
        obtain ⟨p', hp'⟩ : ∃ q : Nat, q = plus xs p 32 := ⟨_, rfl⟩
        rw [← hx, ← hp'] at hid
        have hxl : x.length = 32 := by rw [hx]; exact takeX_len _ _ _
        have hxg : GoodID x := ⟨hxl, by rw [hx]; exact takeX_octs HOct.out p 32⟩
        have HX : Hid (x = takeX xs p 32) := hx
        have HP' : Hid (p' = plus xs p 32) := hp'
        have hpp : k + 1 ≤ p' := by rw [hp']; unfold plus; omega
        have HGd : Hid (Gu w wr.drew ob (.slice ao xs.length cap) xs p { o1 with pv := .slice pao k pcap }) := Gd
        have c35d : wr.drew.cell? ⟨ob, 35, none⟩ = some (.slice pao k pcap) := obj_pv (o := { o1 with pv := .slice pao k pcap }) hcl1 Gd.blk
        have HOWd : Hid (wr.drew.ownsRow (ob + 1) 25 32 (.slice pao k pcap) k (ids.map idRow).flatten) := ownsK_on HC.out.own kd (fun _ _ => by simp)
        have hbx := hbuild (idRow x) (by unfold idRow; rw [List.length_map, hxl])
        have HNB : Hid (∀ g, (Value.slice pao k pcap).ownBlock = some g → ob < g) := fun g hg => (World.ownsRow.lt HC.out.own g hg).1
        have hone : ∀ u, u ∈ idRow x → u.oneCell' = true := map_oneCell x
        have hil : (idRow x).length = 32 := by unfold idRow; rw [List.length_map, hxl]
        have hfold := fold_all (idRow x) (idRow zero32) (by rw [hil]; rfl)
        rw [show (idRow zero32).toArray = #[Value.int .u8 0, Value.int .u8 0, Value.int .u8 0, Value.int .u8 0, Value.int .u8 0, Value.int .u8 0, Value.int .u8 0, Value.int .u8 0, Value.int .u8 0, Value.int .u8 0, Value.int .u8 0, Value.int .u8 0, Value.int .u8 0, Value.int .u8 0, Value.int .u8 0, Value.int .u8 0, Value.int .u8 0, Value.int .u8 0, Value.int .u8 0, Value.int .u8 0, Value.int .u8 0, Value.int .u8 0, Value.int .u8 0, Value.int .u8 0, Value.int .u8 0, Value.int .u8 0, Value.int .u8 0, Value.int .u8 0, Value.int .u8 0, Value.int .u8 0, Value.int .u8 0, Value.int .u8 0] from rfl] at hfold
        have HIX : Hid (idC x = (idRow x).toArray) := rfl
        have hke : k ≤ 1000000 := by omega
        clear hx hp' Gd kd
        rw [HIX.out] at hid
        generalize hir : idRow x = ir at *
        have HIR : Hid (idRow x = ir) := hir
        clear hir
        have HA1 : Hid (∀ w3, Kept [w.heap.size + 1] wr.drew w3 → GAt w3 (w.heap.size + 1) (.slice ao xs.length cap) xs p' → w3.cell? ⟨ob, 35, none⟩ = some (.slice pao k pcap) ∧ (w3.alloc (.cells ir.toArray 25)).cell? ⟨ob, 35, none⟩ = some (.slice pao k pcap) ∧
            (w3.alloc (.cells ir.toArray 25)).ownsRow (ob + 1) 25 32 (.slice pao k pcap) k (ids.map idRow).flatten ∧ (w3.alloc (.cells ir.toArray 25)).rangeAt w3.heap.size 0 ir ∧ ob + 1 ≤ (w3.alloc (.cells ir.toArray 25)).heap.size ∧
            Hid (Gu w (w3.alloc (.cells ir.toArray 25)) ob (.slice ao xs.length cap) xs p' { o1 with pv := .slice pao k pcap })) := fun w3 k3 g3 => by
          have G3 := HGd.out.next k3 g3
          have c35a : w3.cell? ⟨ob, 35, none⟩ = some (.slice pao k pcap) := obj_pv (o := { o1 with pv := .slice pao k pcap }) hcl1 G3.blk
          have kA : Kept [] w3 (w3.alloc (.cells ir.toArray 25)) := (Kept.refl _ _).alloc _
          refine ⟨c35a, kA.cell c35a (by simp), ownsK_on (ownsK_on HOWd.out k3 (fun g hg => ?_)) kA (fun _ _ => by simp), row_range (heap_alloc_new w3 _), ?_, G3.on kA⟩
          · have h1 := HNB.out g hg
            have h2 := HGd.out.lo
            simp
            omega
          · have h1 := (Array.getElem?_eq_some_iff.1 G3.blk).1
            rw [World.size_alloc]
            omega
        have HA2 : Hid (∀ w4 pao5 pcap5 w5, Gu w w4 ob (.slice ao xs.length cap) xs p' { o1 with pv := .slice pao k pcap } → w5.ownsRow (ob + 1) 25 32 (.slice pao5 (k + 1) pcap5) (k + 1) ((ids.map idRow).flatten ++ ir) → Kept (Value.slice pao k pcap).ownBlock.toList w4 w5 →
            (∃ c, w5.cell? ⟨ob, 35, none⟩ = some c) ∧ w5.frozen? ⟨ob, 35, none⟩ = false ∧ Hid (CSt w (w5.setCell ⟨ob, 35, none⟩ (.slice pao5 (k + 1) pcap5)) ob (.slice ao xs.length cap) xs q2 n o1 (k + 1) (.slice pao5 (k + 1) pcap5) (ids ++ [x]) p')) := fun w4 pao5 pcap5 w5 G4 h5 k5 => by
          have G5 := G4.keep k5 (fun x hx => HNB.out x (by simpa using hx))
          obtain ⟨d5, f5⟩ := G5.cell (i := 35) (by rw [objL_len (o := { o1 with pv := .slice pao k pcap }) hcl1 htl1]; decide)
          have kS5 : Kept [ob] w5 (w5.setCell ⟨ob, 35, none⟩ (.slice pao5 (k + 1) pcap5)) := (Kept.refl _ _).setCell (Or.inl (by simp)) _
          refine ⟨d5, f5, G5.put (set_pv { o1 with pv := .slice pao k pcap } _ hcl1), ?_, by rw [List.length_append, HC.out.len]; rfl, fun y hy => ?_, ?_, hpp⟩
          · rw [List.map_append, List.flatten_append, List.map_singleton, List.flatten_singleton, HIR.out]
            refine ownsK_on h5 kS5 (fun g hg => ?_)
            have h1 := (World.ownsRow.lt h5 g hg).1
            simp
            omega
          · rcases List.mem_append.1 hy with hy | hy
            · exact HC.out.good y hy
            · rw [List.mem_singleton.1 hy]; exact hxg
          · rw [HC.out.spec, gPars_next xs (n - k) p (by omega) hpl, ← HX.out, ← HP'.out, show n - k - 1 = n - (k + 1) by omega]
            simp
        clear HNB HOWd HGd HX HP' HC hxg
        go_wp2_with fail
        go_region_law (first
          | (refine step_append_k rfl (.tmp 81) (.tmp 84) 26 25 (.agg (idRow zero32).toArray) 32 32 hT30 Tryd.zeroIDi rfl (by decide) rfl (v := .slice pao k pcap) rfl own3 (q := w3.heap.size) (us := ir) rfl hil rng3 hone hke (by decide) hB3 ?_; intro pv5 w5 h5 k5 b5
             obtain ⟨pao5, pcap5, rfl⟩ := ownsK_form h5
             obtain ⟨⟨cc5, dc5⟩, fc5, HC5⟩ := HA2.out _ pao5 pcap5 w5 HG4.out h5 k5
             clear h5 k5 b5)
          | (go_simp; go_at_call 52; (with_reducible refine hid.mono ?_); rintro e w3 ⟨rfl, g3, k3⟩
             obtain ⟨c35a, c35b, own3, rng3, hB3, HG4⟩ := HA1.out w3 k3 g3
             clear g3 k3))
        all_goals go_wp2
        all_goals go_roundw
        all_goals first
          | exact ⟨k + 1, by omega, by go_num, _, _, _, HC5.out⟩
          | (simp [intOf]; omega)
      · have t2 : decide ((p : Int) < (xs.length : Int)) = false := decide_eq_false (by omega)
        obtain ⟨pao, pcap, rfl⟩ := ownsK_form HC.out.own
        have HSP : Hid (gPars xs n q2 = (ids, p)) := by
          show _ = _
          rw [HC.out.spec, gPars_end xs (n - k) p (by omega), List.append_nil]
        have HNB : Hid (∀ g, (Value.slice pao k pcap).ownBlock = some g → ob < g) := fun g hg => (World.ownsRow.lt HC.out.own g hg).1
        have HLO : Hid (w.heap.size + 1 + 1 ≤ ob) := HC.out.gu.lo
        have HIL : Hid (ids.length = k ∧ ∀ x, x ∈ ids → GoodID x) := ⟨HC.out.len, HC.out.good⟩
        obtain ⟨o2, ho2⟩ : ∃ o : ObjL, o = { o1 with pv := .slice pao k pcap } := ⟨_, rfl⟩
        obtain ⟨p2, hp2⟩ : ∃ q : Nat, q = p := ⟨_, rfl⟩
        have HG2 : Gu w wr ob (.slice ao xs.length cap) xs p2 o2 := by rw [ho2, hp2]; exact HC.out.gu
        have HOW2 : Hid (wr.ownsRow (ob + 1) 25 32 (.slice pao k pcap) k (ids.map idRow).flatten) := HC.out.own
        have hcl2 : o2.com.tree.length = 32 := by rw [ho2]; exact hcl1
        have htl2 : o2.tag.target.length = 32 := by rw [ho2]; exact htl1
        have HO2 : Hid (o2 = { o1 with pv := .slice pao k pcap }) := ho2
        have HP2 : Hid (p2 = p) := hp2
        clear HC ho2 hp2 hbuild
        generalize wr = W2 at *
        have hc2 := gtext_any HG2.gat
        obtain ⟨x2, hx2⟩ : ∃ x : List Int, x = txtG xs p2 := ⟨_, rfl⟩
        obtain ⟨p3, hp3⟩ : ∃ p : Nat, p = txtE xs p2 := ⟨_, rfl⟩
        rw [← hx2, ← hp3] at hc2
        have HX2 : Hid (x2 = txtG xs p2) := hx2
        have HP3 : Hid (p3 = txtE xs p2) := hp3
        obtain ⟨o3, ho3⟩ : ∃ o : ObjL, o = { o2 with com := { o2.com with who := x2 } } := ⟨_, rfl⟩
        have HO3 : Hid (o3 = { o2 with com := { o2.com with who := x2 } }) := ho3
        have hcl3 : o3.com.tree.length = 32 := by rw [ho3]; exact hcl2
        have htl3 : o3.tag.target.length = 32 := by rw [ho3]; exact htl2
        have HU2 : Hid (Gu w W2 ob (.slice ao xs.length cap) xs p2 o2) := HG2
        clear HG2
        go_wp2_with fail
        go_at_call 51
        refine hc2.mono ?_
        rintro e w3 ⟨rfl, g3, k3⟩
        have HN2 := HU2.out.next k3 g3
        have kS2 : Kept [ob] w3 (w3.setCell ⟨ob, 36, none⟩ (.string (strOfNums x2))) := (Kept.refl _ _).setCell (Or.inl (by simp)) _
        have HOW3 : Hid ((w3.setCell ⟨ob, 36, none⟩ (.string (strOfNums x2))).ownsRow (ob + 1) 25 32 (.slice pao k pcap) k (ids.map idRow).flatten) := ownsK_on (ownsK_on HOW2.out k3 (fun g hg => by have h1 := HNB.out g hg; have h2 := HLO.out; simp; omega)) kS2 (fun g hg => by have h1 := HNB.out g hg; simp; omega)
        clear kS2 HOW2
        obtain ⟨⟨cc2, dc2⟩, fc2⟩ := HN2.cell (i := 36) (by rw [objL_len hcl2 htl2]; decide)
        have HZ2 : Hid (Gu w (w3.setCell ⟨ob, 36, none⟩ (.string (strOfNums x2))) ob (.slice ao xs.length cap) xs p3 o3) := HN2.put (by rw [ho3, show 36 = 3 + 33 from rfl, set_com o2 hcl2 33 (by decide), show 33 = 32 + 1 from rfl, set_comL o2.com o2.pv hcl2]; rfl)
        clear hc2 g3 k3 HN2 HU2 hx2 hp3 ho3
        go_upto_region 22 with fail
        have HG3 := HZ2.out
        clear HZ2 dc2 fc2
        generalize w3.setCell ⟨ob, 36, none⟩ (.string (strOfNums x2)) = W3 at *
        have hc3 := gtime_any HG3.gat
        obtain ⟨x3, hx3⟩ : ∃ x : Int, x = be (takeX xs p3 8) := ⟨_, rfl⟩
        obtain ⟨p4, hp4⟩ : ∃ p : Nat, p = plus xs p3 8 := ⟨_, rfl⟩
        rw [← hx3, ← hp4] at hc3
        have HX3 : Hid (x3 = be (takeX xs p3 8)) := hx3
        have HP4 : Hid (p4 = plus xs p3 8) := hp4
        obtain ⟨o4, ho4⟩ : ∃ o : ObjL, o = { o3 with com := { o3.com with time := x3 } } := ⟨_, rfl⟩
        have HO4 : Hid (o4 = { o3 with com := { o3.com with time := x3 } }) := ho4
        have hcl4 : o4.com.tree.length = 32 := by rw [ho4]; exact hcl3
        have htl4 : o4.tag.target.length = 32 := by rw [ho4]; exact htl3
        have HU3 : Hid (Gu w W3 ob (.slice ao xs.length cap) xs p3 o3) := HG3
        clear HG3
        go_wp2_with fail
        go_at_call 53
        refine hc3.mono ?_
        rintro e w4 ⟨rfl, g4, k4⟩
        have HN3 := HU3.out.next k4 g4
        have kS3 : Kept [ob] w4 (w4.setCell ⟨ob, 37, none⟩ (.int .u64 x3)) := (Kept.refl _ _).setCell (Or.inl (by simp)) _
        have HOW4 : Hid ((w4.setCell ⟨ob, 37, none⟩ (.int .u64 x3)).ownsRow (ob + 1) 25 32 (.slice pao k pcap) k (ids.map idRow).flatten) := ownsK_on (ownsK_on HOW3.out k4 (fun g hg => by have h1 := HNB.out g hg; have h2 := HLO.out; simp; omega)) kS3 (fun g hg => by have h1 := HNB.out g hg; simp; omega)
        clear kS3 HOW3
        obtain ⟨⟨cc3, dc3⟩, fc3⟩ := HN3.cell (i := 37) (by rw [objL_len hcl3 htl3]; decide)
        have HZ3 : Hid (Gu w (w4.setCell ⟨ob, 37, none⟩ (.int .u64 x3)) ob (.slice ao xs.length cap) xs p4 o4) := HN3.put (by rw [ho4, show 37 = 3 + 34 from rfl, set_com o3 hcl3 34 (by decide), show 34 = 32 + 2 from rfl, set_comL o3.com o3.pv hcl3]; rfl)
        clear hc3 g4 k4 HN3 HU3 hx3 hp4 ho4
        go_upto_region 23 with fail
        have HG4 := HZ3.out
        clear HZ3 dc3 fc3
        generalize w4.setCell ⟨ob, 37, none⟩ (.int .u64 x3) = W4 at *
        have hc4 := gtext_any HG4.gat
        obtain ⟨x4, hx4⟩ : ∃ x : List Int, x = txtG xs p4 := ⟨_, rfl⟩
        obtain ⟨p5, hp5⟩ : ∃ p : Nat, p = txtE xs p4 := ⟨_, rfl⟩
        rw [← hx4, ← hp5] at hc4
        have HX4 : Hid (x4 = txtG xs p4) := hx4
        have HP5 : Hid (p5 = txtE xs p4) := hp5
        obtain ⟨o5, ho5⟩ : ∃ o : ObjL, o = { o4 with com := { o4.com with text := x4 } } := ⟨_, rfl⟩
        have HO5 : Hid (o5 = { o4 with com := { o4.com with text := x4 } }) := ho5
        have hcl5 : o5.com.tree.length = 32 := by rw [ho5]; exact hcl4
        have htl5 : o5.tag.target.length = 32 := by rw [ho5]; exact htl4
        have HU4 : Hid (Gu w W4 ob (.slice ao xs.length cap) xs p4 o4) := HG4
        clear HG4
        go_wp2_with fail
        go_at_call 51
        refine hc4.mono ?_
        rintro e w5 ⟨rfl, g5, k5⟩
        have HN4 := HU4.out.next k5 g5
        have kS4 : Kept [ob] w5 (w5.setCell ⟨ob, 38, none⟩ (.string (strOfNums x4))) := (Kept.refl _ _).setCell (Or.inl (by simp)) _
        have HOW5 : Hid ((w5.setCell ⟨ob, 38, none⟩ (.string (strOfNums x4))).ownsRow (ob + 1) 25 32 (.slice pao k pcap) k (ids.map idRow).flatten) := ownsK_on (ownsK_on HOW4.out k5 (fun g hg => by have h1 := HNB.out g hg; have h2 := HLO.out; simp; omega)) kS4 (fun g hg => by have h1 := HNB.out g hg; simp; omega)
        clear kS4 HOW4
        obtain ⟨⟨cc4, dc4⟩, fc4⟩ := HN4.cell (i := 38) (by rw [objL_len hcl4 htl4]; decide)
        have HZ4 : Hid (Gu w (w5.setCell ⟨ob, 38, none⟩ (.string (strOfNums x4))) ob (.slice ao xs.length cap) xs p5 o5) := HN4.put (by rw [ho5, show 38 = 3 + 35 from rfl, set_com o4 hcl4 35 (by decide), show 35 = 32 + 3 from rfl, set_comL o4.com o4.pv hcl4]; rfl)
        clear hc4 g5 k5 HN4 HU4 hx4 hp5 ho5
        go_upto_region 31 with fail
        have HG5 := HZ4.out
        clear HZ4 dc4 fc4
        generalize w5.setCell ⟨ob, 38, none⟩ (.string (strOfNums x4)) = W5 at *
        have HE : Hid (o5.row.toArray = ({ kindO 3 with com := gCom xs, pv := .slice pao k pcap } : ObjL).row.toArray ∧ (gCom xs).parents = ids) := by
          have y0 := HP0.out
          have y1 := HP1.out
          have y2 := HQ2.out
          have y3 := HP2.out
          subst y0 y3
          have hr : gPars xs (numG xs p1).1.toNat (plus xs p1 (numG xs p1).2) = (ids, p2) := by rw [← y2, HNN.out]; exact HSP.out
          rw [y1] at hr
          have hcm : gCom xs = ⟨takeX xs 1 32, ids, txtG xs p2, be (takeX xs (txtE xs p2) 8), txtG xs (plus xs (txtE xs p2) 8)⟩ := by
            unfold gCom
            simp only [hr]
          rw [hcm]
          refine ⟨?_, rfl⟩
          rw [HO5.out, HO4.out, HO3.out, HO2.out, HO1.out, HO0.out, HX4.out, HX3.out, HX2.out, HX0.out, HP4.out, HP3.out]
          rfl
        have hone : o5.row.toArray.all (·.oneCell') = true := by rw [HE.out.1]; exact objV_one rfl rfl rfl
        have HID : Hid (IdsAt (W5.setRow w.heap.size o5.row.toArray) (.slice pao k pcap) ids) := by
          have hown := ownsK_on HOW5.out (T := [w.heap.size]) (w' := W5.setRow w.heap.size o5.row.toArray) ⟨rfl, rfl, rfl, by simp [World.setRow], fun j _ hn => setRow_other W5 _ j _ (fun e => hn (by simp [e]))⟩ (fun g hg => by have h1 := HNB.out g hg; have h2 := HLO.out; simp; omega)
          have hrow : RowsAt (W5.setRow w.heap.size o5.row.toArray) (.slice pao k pcap) 32 (ids.map idRow) := ownsK_rows (by decide) (fun r hr => by obtain ⟨x, hx, rfl⟩ := List.mem_map.1 hr; unfold idRow; rw [List.length_map]; exact (HIL.out.2 x hx).1) (by rw [List.length_map, HIL.out.1]; exact hown) (by rw [List.length_map, HIL.out.1]; omega)
          exact ids_rowsAt hrow
        have hoz : o5.row.toArray.size = 76 := by rw [List.size_toArray]; exact objL_len hcl5 htl5
        have hos : (Tryd.prog.info? 33).map (·.size) = some o5.row.toArray.size := by rw [hoz]; kernel_rfl
        have hozz : Tryd.zeroCells33.size = o5.row.toArray.size := by rw [hoz]; kernel_rfl
        have HOB : Hid (W5.heap[ob]? = some (.cells o5.row.toArray 33 (0, 0))) := HG5.blk
        have HRS : Hid (W5.heap[w.heap.size]? = some (.cells Tryd.zeroCells33 33 (0, 0))) := HG5.res
        have HFin : Hid (Kept [] w (W5.setRow w.heap.size o5.row.toArray)) := kept_setRow HG5.kp (Nat.le_refl _) _
        clear HG5
        generalize hpr : o5.row.toArray = pr at *
        have HPr : Hid (o5.row.toArray = pr) := hpr
        clear hpr
        go_wp2_with (first
          | (refine wpList_load_row (by rfl) 33 (.tmp 4) (by rfl) ob (by rfl) 33 pr (0, 0) _ HOB.out hun rfl hos ?_)
          | (refine wpList_store_row (by rfl) 33 (.tmp 2) (.tmp 126) (by rfl) w.heap.size pr (by rfl) (by rfl) 33 _ HRS.out hos hozz hone ?_))
        refine bodyPost_ret (v := .agg pr) ?_ rfl ?_
        · rw [results_cell1 rfl]
          exact run_loadVar_row (P := Tryd.prog) _ w.heap.size 33 33 pr (0, 0) _ (setRow_heap _ _ _ _ _ _ HRS.out) hun rfl hos
        · exact ⟨_, by first | rw [← HE.out.1, HPr.out] | rw [← HE.out.1], by rw [HE.out.2]; exact HID.out, fun b hb => by have h1 := HNB.out b (by rw [← own_blkG]; exact hb); have h2 := HLO.out; omega, HFin.out⟩
    · have t1 : decide ((k : Int) < (n : Int)) = false := decide_eq_false (by omega)
      obtain ⟨pao, pcap, rfl⟩ := ownsK_form HC.out.own
      have HSP : Hid (gPars xs n q2 = (ids, p)) := by
        show _ = _
        rw [HC.out.spec, gPars_end xs (n - k) p (by omega), List.append_nil]
      have HNB : Hid (∀ g, (Value.slice pao k pcap).ownBlock = some g → ob < g) := fun g hg => (World.ownsRow.lt HC.out.own g hg).1
      have HLO : Hid (w.heap.size + 1 + 1 ≤ ob) := HC.out.gu.lo
      have HIL : Hid (ids.length = k ∧ ∀ x, x ∈ ids → GoodID x) := ⟨HC.out.len, HC.out.good⟩
      obtain ⟨o2, ho2⟩ : ∃ o : ObjL, o = { o1 with pv := .slice pao k pcap } := ⟨_, rfl⟩
      obtain ⟨p2, hp2⟩ : ∃ q : Nat, q = p := ⟨_, rfl⟩
      have HG2 : Gu w wr ob (.slice ao xs.length cap) xs p2 o2 := by rw [ho2, hp2]; exact HC.out.gu
      have HOW2 : Hid (wr.ownsRow (ob + 1) 25 32 (.slice pao k pcap) k (ids.map idRow).flatten) := HC.out.own
      have hcl2 : o2.com.tree.length = 32 := by rw [ho2]; exact hcl1
      have htl2 : o2.tag.target.length = 32 := by rw [ho2]; exact htl1
      have HO2 : Hid (o2 = { o1 with pv := .slice pao k pcap }) := ho2
      have HP2 : Hid (p2 = p) := hp2
      clear HC ho2 hp2 hbuild
      generalize wr = W2 at *
      have hc2 := gtext_any HG2.gat
      obtain ⟨x2, hx2⟩ : ∃ x : List Int, x = txtG xs p2 := ⟨_, rfl⟩
      obtain ⟨p3, hp3⟩ : ∃ p : Nat, p = txtE xs p2 := ⟨_, rfl⟩
      rw [← hx2, ← hp3] at hc2
      have HX2 : Hid (x2 = txtG xs p2) := hx2
      have HP3 : Hid (p3 = txtE xs p2) := hp3
      obtain ⟨o3, ho3⟩ : ∃ o : ObjL, o = { o2 with com := { o2.com with who := x2 } } := ⟨_, rfl⟩
      have HO3 : Hid (o3 = { o2 with com := { o2.com with who := x2 } }) := ho3
      have hcl3 : o3.com.tree.length = 32 := by rw [ho3]; exact hcl2
      have htl3 : o3.tag.target.length = 32 := by rw [ho3]; exact htl2
      have HU2 : Hid (Gu w W2 ob (.slice ao xs.length cap) xs p2 o2) := HG2
      clear HG2
      go_wp2_with fail
      go_at_call 51
      refine hc2.mono ?_
      rintro e w3 ⟨rfl, g3, k3⟩
      have HN2 := HU2.out.next k3 g3
      have kS2 : Kept [ob] w3 (w3.setCell ⟨ob, 36, none⟩ (.string (strOfNums x2))) := (Kept.refl _ _).setCell (Or.inl (by simp)) _
      have HOW3 : Hid ((w3.setCell ⟨ob, 36, none⟩ (.string (strOfNums x2))).ownsRow (ob + 1) 25 32 (.slice pao k pcap) k (ids.map idRow).flatten) := ownsK_on (ownsK_on HOW2.out k3 (fun g hg => by have h1 := HNB.out g hg; have h2 := HLO.out; simp; omega)) kS2 (fun g hg => by have h1 := HNB.out g hg; simp; omega)
      clear kS2 HOW2
      obtain ⟨⟨cc2, dc2⟩, fc2⟩ := HN2.cell (i := 36) (by rw [objL_len hcl2 htl2]; decide)
      have HZ2 : Hid (Gu w (w3.setCell ⟨ob, 36, none⟩ (.string (strOfNums x2))) ob (.slice ao xs.length cap) xs p3 o3) := HN2.put (by rw [ho3, show 36 = 3 + 33 from rfl, set_com o2 hcl2 33 (by decide), show 33 = 32 + 1 from rfl, set_comL o2.com o2.pv hcl2]; rfl)
      clear hc2 g3 k3 HN2 HU2 hx2 hp3 ho3
      go_upto_region 22 with fail
      have HG3 := HZ2.out
      clear HZ2 dc2 fc2
      generalize w3.setCell ⟨ob, 36, none⟩ (.string (strOfNums x2)) = W3 at *
      have hc3 := gtime_any HG3.gat
      obtain ⟨x3, hx3⟩ : ∃ x : Int, x = be (takeX xs p3 8) := ⟨_, rfl⟩
      obtain ⟨p4, hp4⟩ : ∃ p : Nat, p = plus xs p3 8 := ⟨_, rfl⟩
      rw [← hx3, ← hp4] at hc3
      have HX3 : Hid (x3 = be (takeX xs p3 8)) := hx3
      have HP4 : Hid (p4 = plus xs p3 8) := hp4
      obtain ⟨o4, ho4⟩ : ∃ o : ObjL, o = { o3 with com := { o3.com with time := x3 } } := ⟨_, rfl⟩
      have HO4 : Hid (o4 = { o3 with com := { o3.com with time := x3 } }) := ho4
      have hcl4 : o4.com.tree.length = 32 := by rw [ho4]; exact hcl3
      have htl4 : o4.tag.target.length = 32 := by rw [ho4]; exact htl3
      have HU3 : Hid (Gu w W3 ob (.slice ao xs.length cap) xs p3 o3) := HG3
      clear HG3
      go_wp2_with fail
      go_at_call 53
      refine hc3.mono ?_
      rintro e w4 ⟨rfl, g4, k4⟩
      have HN3 := HU3.out.next k4 g4
      have kS3 : Kept [ob] w4 (w4.setCell ⟨ob, 37, none⟩ (.int .u64 x3)) := (Kept.refl _ _).setCell (Or.inl (by simp)) _
      have HOW4 : Hid ((w4.setCell ⟨ob, 37, none⟩ (.int .u64 x3)).ownsRow (ob + 1) 25 32 (.slice pao k pcap) k (ids.map idRow).flatten) := ownsK_on (ownsK_on HOW3.out k4 (fun g hg => by have h1 := HNB.out g hg; have h2 := HLO.out; simp; omega)) kS3 (fun g hg => by have h1 := HNB.out g hg; simp; omega)
      clear kS3 HOW3
      obtain ⟨⟨cc3, dc3⟩, fc3⟩ := HN3.cell (i := 37) (by rw [objL_len hcl3 htl3]; decide)
      have HZ3 : Hid (Gu w (w4.setCell ⟨ob, 37, none⟩ (.int .u64 x3)) ob (.slice ao xs.length cap) xs p4 o4) := HN3.put (by rw [ho4, show 37 = 3 + 34 from rfl, set_com o3 hcl3 34 (by decide), show 34 = 32 + 2 from rfl, set_comL o3.com o3.pv hcl3]; rfl)
      clear hc3 g4 k4 HN3 HU3 hx3 hp4 ho4
      go_upto_region 23 with fail
      have HG4 := HZ3.out
      clear HZ3 dc3 fc3
      generalize w4.setCell ⟨ob, 37, none⟩ (.int .u64 x3) = W4 at *
      have hc4 := gtext_any HG4.gat
      obtain ⟨x4, hx4⟩ : ∃ x : List Int, x = txtG xs p4 := ⟨_, rfl⟩
      obtain ⟨p5, hp5⟩ : ∃ p : Nat, p = txtE xs p4 := ⟨_, rfl⟩
      rw [← hx4, ← hp5] at hc4
      have HX4 : Hid (x4 = txtG xs p4) := hx4
      have HP5 : Hid (p5 = txtE xs p4) := hp5
      obtain ⟨o5, ho5⟩ : ∃ o : ObjL, o = { o4 with com := { o4.com with text := x4 } } := ⟨_, rfl⟩
      have HO5 : Hid (o5 = { o4 with com := { o4.com with text := x4 } }) := ho5
      have hcl5 : o5.com.tree.length = 32 := by rw [ho5]; exact hcl4
      have htl5 : o5.tag.target.length = 32 := by rw [ho5]; exact htl4
      have HU4 : Hid (Gu w W4 ob (.slice ao xs.length cap) xs p4 o4) := HG4
      clear HG4
      go_wp2_with fail
      go_at_call 51
      refine hc4.mono ?_
      rintro e w5 ⟨rfl, g5, k5⟩
      have HN4 := HU4.out.next k5 g5
      have kS4 : Kept [ob] w5 (w5.setCell ⟨ob, 38, none⟩ (.string (strOfNums x4))) := (Kept.refl _ _).setCell (Or.inl (by simp)) _
      have HOW5 : Hid ((w5.setCell ⟨ob, 38, none⟩ (.string (strOfNums x4))).ownsRow (ob + 1) 25 32 (.slice pao k pcap) k (ids.map idRow).flatten) := ownsK_on (ownsK_on HOW4.out k5 (fun g hg => by have h1 := HNB.out g hg; have h2 := HLO.out; simp; omega)) kS4 (fun g hg => by have h1 := HNB.out g hg; simp; omega)
      clear kS4 HOW4
      obtain ⟨⟨cc4, dc4⟩, fc4⟩ := HN4.cell (i := 38) (by rw [objL_len hcl4 htl4]; decide)
      have HZ4 : Hid (Gu w (w5.setCell ⟨ob, 38, none⟩ (.string (strOfNums x4))) ob (.slice ao xs.length cap) xs p5 o5) := HN4.put (by rw [ho5, show 38 = 3 + 35 from rfl, set_com o4 hcl4 35 (by decide), show 35 = 32 + 3 from rfl, set_comL o4.com o4.pv hcl4]; rfl)
      clear hc4 g5 k5 HN4 HU4 hx4 hp5 ho5
      go_upto_region 31 with fail
      have HG5 := HZ4.out
      clear HZ4 dc4 fc4
      generalize w5.setCell ⟨ob, 38, none⟩ (.string (strOfNums x4)) = W5 at *
      have HE : Hid (o5.row.toArray = ({ kindO 3 with com := gCom xs, pv := .slice pao k pcap } : ObjL).row.toArray ∧ (gCom xs).parents = ids) := by
        have y0 := HP0.out
        have y1 := HP1.out
        have y2 := HQ2.out
        have y3 := HP2.out
        subst y0 y3
        have hr : gPars xs (numG xs p1).1.toNat (plus xs p1 (numG xs p1).2) = (ids, p2) := by rw [← y2, HNN.out]; exact HSP.out
        rw [y1] at hr
        have hcm : gCom xs = ⟨takeX xs 1 32, ids, txtG xs p2, be (takeX xs (txtE xs p2) 8), txtG xs (plus xs (txtE xs p2) 8)⟩ := by
          unfold gCom
          simp only [hr]
        rw [hcm]
        refine ⟨?_, rfl⟩
        rw [HO5.out, HO4.out, HO3.out, HO2.out, HO1.out, HO0.out, HX4.out, HX3.out, HX2.out, HX0.out, HP4.out, HP3.out]
        rfl
      have hone : o5.row.toArray.all (·.oneCell') = true := by rw [HE.out.1]; exact objV_one rfl rfl rfl
      have HID : Hid (IdsAt (W5.setRow w.heap.size o5.row.toArray) (.slice pao k pcap) ids) := by
        have hown := ownsK_on HOW5.out (T := [w.heap.size]) (w' := W5.setRow w.heap.size o5.row.toArray) ⟨rfl, rfl, rfl, by simp [World.setRow], fun j _ hn => setRow_other W5 _ j _ (fun e => hn (by simp [e]))⟩ (fun g hg => by have h1 := HNB.out g hg; have h2 := HLO.out; simp; omega)
        have hrow : RowsAt (W5.setRow w.heap.size o5.row.toArray) (.slice pao k pcap) 32 (ids.map idRow) := ownsK_rows (by decide) (fun r hr => by obtain ⟨x, hx, rfl⟩ := List.mem_map.1 hr; unfold idRow; rw [List.length_map]; exact (HIL.out.2 x hx).1) (by rw [List.length_map, HIL.out.1]; exact hown) (by rw [List.length_map, HIL.out.1]; omega)
        exact ids_rowsAt hrow
      have hoz : o5.row.toArray.size = 76 := by rw [List.size_toArray]; exact objL_len hcl5 htl5
      have hos : (Tryd.prog.info? 33).map (·.size) = some o5.row.toArray.size := by rw [hoz]; kernel_rfl
      have hozz : Tryd.zeroCells33.size = o5.row.toArray.size := by rw [hoz]; kernel_rfl
      have HOB : Hid (W5.heap[ob]? = some (.cells o5.row.toArray 33 (0, 0))) := HG5.blk
      have HRS : Hid (W5.heap[w.heap.size]? = some (.cells Tryd.zeroCells33 33 (0, 0))) := HG5.res
      have HFin : Hid (Kept [] w (W5.setRow w.heap.size o5.row.toArray)) := kept_setRow HG5.kp (Nat.le_refl _) _
      clear HG5
      generalize hpr : o5.row.toArray = pr at *
      have HPr : Hid (o5.row.toArray = pr) := hpr
      clear hpr
      go_wp2_with (first
        | (refine wpList_load_row (by rfl) 33 (.tmp 4) (by rfl) ob (by rfl) 33 pr (0, 0) _ HOB.out hun rfl hos ?_)
        | (refine wpList_store_row (by rfl) 33 (.tmp 2) (.tmp 126) (by rfl) w.heap.size pr (by rfl) (by rfl) 33 _ HRS.out hos hozz hone ?_))
      refine bodyPost_ret (v := .agg pr) ?_ rfl ?_
      · rw [results_cell1 rfl]
        exact run_loadVar_row (P := Tryd.prog) _ w.heap.size 33 33 pr (0, 0) _ (setRow_heap _ _ _ _ _ _ HRS.out) hun rfl hos
      · exact ⟨_, by first | rw [← HE.out.1, HPr.out] | rw [← HE.out.1], by rw [HE.out.2]; exact HID.out, fun b hb => by have h1 := HNB.out b (by rw [← own_blkG]; exact hb); have h2 := HLO.out; omega, HFin.out⟩
end Go.Proofs.YtnfbiemmdaenpaaDoor
