/-
  WALK: (object.tree).fault.
  WALK: (object.tree).write.
-/
import Derived.Test.YtnfbiemmdaenpaaDoorEnt0
namespace Go.Proofs.YtnfbiemmdaenpaaDoor
open Go.RowKit

theorem Tabs.kept {w w' : World} (h : Tabs w) (k : Kept [] w w') : Tabs w' := Utf8Tabs_below h (k.below (Nat.le_refl _) (by simp))

def modeB (m : Int) : Bool := decide (1 ≤ m) && decide (m ≤ 4)
def lessB (a b : List Int) : Bool := Op.bytesLess (strOfNums a).toList (strOfNums b).toList
def nameAt (es : List EntL) (i : Nat) : List Int := (es[i]?.map EntL.name).getD []
def ascB (es : List EntL) : Bool := (List.range (es.length - 1)).all fun i => lessB (nameAt es i) (nameAt es (i + 1))
/-- The first error of a tree's entries. -/
def faultT (es : List EntL) : Int := if 1024 < es.length then 35 else if es.all (fun e => modeB e.mode) = false then 34 else if es.all (fun e => nameB e.name) = false then 32 else if ascB es = false then 33 else 0
theorem all_of {es : List EntL} {p : EntL → Bool} (h : ∀ (i : Nat) (e : EntL), es[i]? = some e → i < es.length → p e = true) : es.all p = true := by
  rw [List.all_eq_true]
  intro e he
  obtain ⟨i, hi, rfl⟩ := List.getElem_of_mem he
  exact h i _ (List.getElem?_eq_getElem hi) hi
theorem not_all {es : List EntL} {p : EntL → Bool} {k : Nat} {e : EntL} (he : es[k]? = some e) (hp : p e = false) : es.all p = false := by
  rw [List.all_eq_false]
  exact ⟨e, List.mem_of_getElem? he, by rw [hp]; simp⟩
theorem faultT_many {es : List EntL} (h : 1024 < es.length) : faultT es = 35 := if_pos h
theorem faultT_mode {es : List EntL} (h : ¬ 1024 < es.length) (h1 : es.all (fun e => modeB e.mode) = false) : faultT es = 34 := by unfold faultT; rw [if_neg h, if_pos h1]
theorem faultT_name {es : List EntL} (h : ¬ 1024 < es.length) (h1 : es.all (fun e => modeB e.mode) = true) (h2 : es.all (fun e => nameB e.name) = false) : faultT es = 32 := by unfold faultT; rw [if_neg h, h1, if_neg (by decide), if_pos h2]
theorem faultT_asc {es : List EntL} (h : ¬ 1024 < es.length) (h1 : es.all (fun e => modeB e.mode) = true) (h2 : es.all (fun e => nameB e.name) = true) (h3 : ascB es = false) : faultT es = 33 := by unfold faultT; rw [if_neg h, h1, if_neg (by decide), h2, if_neg (by decide), if_pos h3]
theorem faultT_ok {es : List EntL} (h : ¬ 1024 < es.length) (h1 : es.all (fun e => modeB e.mode) = true) (h2 : es.all (fun e => nameB e.name) = true) (h3 : ascB es = true) : faultT es = 0 := by unfold faultT; rw [if_neg h, h1, if_neg (by decide), h2, if_neg (by decide), h3, if_neg (by decide)]

set_option maxRecDepth 100000 in
set_option maxHeartbeats 2000000 in
theorem treeFault_any (v : Value) (es : List EntL) (w : World) (hT : Tabs w) (hv : EntsAt w v es) (hg : ∀ e, e ∈ es → e.Good) :
    Calls Tryd.prog 102 #[v] w fun e w' => e = .returned (.int .i64 (faultT es)) ∧ Kept [] w w' := by
  have HV : Hid (∀ W, Kept [] w W → EntsAt W v es) := fun W k => hv.keep k (fun _ _ _ => by simp)
  have HG : Hid (∀ e, e ∈ es → e.Good) := hg
  have HT : Hid (∀ W, Kept [] w W → Tabs W) := fun W k => hT.kept k
  have hun := Tryd.underlying74
  obtain ⟨ao, cap, rfl, hcap, hlen, _⟩ := hv.form
  clear hv hg hT
  by_cases hm : es.length ≤ 1024
  · have hd0 : decide (1024 < (es.length : Int)) = false := decide_eq_false (by omega)
    go_enter Tryd.func102, Tryd.ntmps102
    go_wp2
    go_loopw [13, 4] (fun s13 _ wr => ∃ k : Nat, k ≤ es.length ∧ s13 = .int .i64 k ∧ Hid (∀ (i : Nat) (e : EntL), es[i]? = some e → i < k → 1 ≤ e.mode ∧ e.mode ≤ 4) ∧ Hid (Kept [] w wr)) (fun s13 _ _ => es.length - (intOf s13).toNat)
    case atStart => exact ⟨0, Nat.zero_le _, rfl, fun i e _ h => absurd h (by omega), Kept.refl _ _⟩
    case round =>
      obtain ⟨k, hk, rfl, HM, HK⟩ := hrel
      by_cases hlt : k < es.length
      · obtain ⟨e, he⟩ : ∃ e, es[k]? = some e := ⟨_, List.getElem?_eq_getElem hlt⟩
        have hge := HG.out e (List.mem_of_getElem? he)
        obtain ⟨ao', cap', hvv, _, _, hc⟩ := (HV.out wr HK.out).form
        injection hvv with e1 e2 e3
        subst e1 e3
        obtain ⟨b, off, rfl, hh⟩ := hc (by rintro rfl; simp at hlt)
        have hr := hh k e he
        have hse : (Tryd.prog.info? 74).map (·.size) = some e.row.length := by rw [EntL.row_len hge.id]; exact Tryd.infoEnt
        have hsa : (Tryd.prog.info? 74).map (·.size) = some e.row.toArray.size := by rw [List.size_toArray]; exact hse
        have h34 : e.row.toArray.size = 34 := by rw [List.size_toArray, EntL.row_len hge.id]
        have h1 := ent_one e
        obtain ⟨x0, x1, x2⟩ := ent_cells wr e
        have hlo := hge.lo
        have hhi := hge.hi
        clear hh hc
        have HKA : Hid (Kept [] w (wr.alloc (.cells e.row.toArray 74))) := HK.out.alloc _
        generalize hrow : e.row = er at *
        clear hrow
        by_cases hmode : 1 ≤ e.mode ∧ e.mode ≤ 4
        · have HM' : Hid (∀ (i : Nat) (e : EntL), es[i]? = some e → i < k + 1 → 1 ≤ e.mode ∧ e.mode ≤ 4) := fun i x hx hi => by
            by_cases hik : i = k
            · subst hik
              rw [he] at hx
              cases hx
              exact hmode
            · exact HM.out i x hx (by omega)
          have hd1 : decide (e.mode < 1) = false := decide_eq_false (by omega)
          have hd2 : decide (4 < e.mode) = false := decide_eq_false (by omega)
          clear he hge hmode hlo hhi
          generalize e.mode = md at *
          generalize strOfNums e.name = sn at *
          go_wp2_with (first
            | (refine wpList_load_mid (by rfl) 74 (.tmp 15) (by rfl) b (off + k * 34) (by rfl) er _ hr hun rfl hse ?_)
            | (refine wpList_store_new (by rfl) 74 (.tmp 4) (.tmp 16) (by rfl) wr _ er.toArray (by rfl) (by rfl) hsa (by rw [h34]; rfl) h1 ?_))
          go_roundw
          case rel => exact ⟨k + 1, by omega, by go_num, HM', HKA⟩
          case measure => simp [intOf]; omega
        · have HF : Hid (faultT es = 34) := faultT_mode (by omega) (not_all he (by
            unfold modeB
            by_cases h1 : 1 ≤ e.mode
            · rw [decide_eq_false (by omega : ¬ e.mode ≤ 4)]; simp
            · rw [decide_eq_false h1]; rfl))
          have hdd : decide (e.mode < 1) = true ∨ decide (e.mode < 1) = false ∧ decide (4 < e.mode) = true := by
            by_cases h1 : 1 ≤ e.mode
            · exact Or.inr ⟨decide_eq_false (by omega), decide_eq_true (by omega)⟩
            · exact Or.inl (decide_eq_true (by omega))
          clear he hge hmode hlo hhi
          generalize e.mode = md at *
          generalize strOfNums e.name = sn at *
          rcases hdd with hd1 | ⟨hd1, hd2⟩
          all_goals go_wp2_with (first
            | (refine wpList_load_mid (by rfl) 74 (.tmp 15) (by rfl) b (off + k * 34) (by rfl) er _ hr hun rfl hse ?_)
            | (refine wpList_store_new (by rfl) 74 (.tmp 4) (.tmp 16) (by rfl) wr _ er.toArray (by rfl) (by rfl) hsa (by rw [h34]; rfl) h1 ?_))
          all_goals go_ret
          all_goals exact ⟨by rw [HF.out]; rfl, HKA.out⟩
      · obtain rfl : k = es.length := by omega
        have HMA : Hid (es.all (fun e => modeB e.mode) = true) := all_of fun i e he hi => by
          have h := HM.out i e he hi
          unfold modeB
          rw [decide_eq_true h.1, decide_eq_true h.2]
          rfl
        clear HM
        go_wp2
        go_loopw [28, 6] (fun s28 _ wr => ∃ k : Nat, k ≤ es.length ∧ s28 = .int .i64 k ∧ Hid (∀ (i : Nat) (e : EntL), es[i]? = some e → i < k → nameB e.name = true) ∧ Hid (Kept [] w wr)) (fun s28 _ _ => es.length - (intOf s28).toNat)
        case atStart => exact ⟨0, Nat.zero_le _, rfl, fun i e _ h => absurd h (by omega), HK⟩
        case round =>
          clear HK
          obtain ⟨k, hk, rfl, HN, HK⟩ := hrel
          by_cases hlt : k < es.length
          · obtain ⟨e, he⟩ : ∃ e, es[k]? = some e := ⟨_, List.getElem?_eq_getElem hlt⟩
            have hge := HG.out e (List.mem_of_getElem? he)
            obtain ⟨ao', cap', hvv, _, _, hc⟩ := (HV.out wr HK.out).form
            injection hvv with e1 e2 e3
            subst e1 e3
            obtain ⟨b, off, rfl, hh⟩ := hc (by rintro rfl; simp at hlt)
            have hr := hh k e he
            have hse : (Tryd.prog.info? 74).map (·.size) = some e.row.length := by rw [EntL.row_len hge.id]; exact Tryd.infoEnt
            have hsa : (Tryd.prog.info? 74).map (·.size) = some e.row.toArray.size := by rw [List.size_toArray]; exact hse
            have h34 : e.row.toArray.size = 34 := by rw [List.size_toArray, EntL.row_len hge.id]
            have h1 := ent_one e
            obtain ⟨x0, x1, x2⟩ := ent_cells wr e
            have HKA : Hid (Kept [] w (wr.alloc (.cells e.row.toArray 74))) := HK.out.alloc _
            have hname := Name_any e.name hge.name.1 (wr.alloc (.cells e.row.toArray 74)) (Nat.le_trans hge.name.2 (by decide)) (HT.out _ HKA.out)
            generalize hrow : e.row = er at *
            clear hrow hh hc
            by_cases hnm : nameB e.name = true
            · have HN' : Hid (∀ (i : Nat) (e : EntL), es[i]? = some e → i < k + 1 → nameB e.name = true) := fun i x hx hi => by
                by_cases hik : i = k
                · subst hik
                  rw [he] at hx
                  cases hx
                  exact hnm
                · exact HN.out i x hx (by omega)
              rw [hnm] at hname
              clear he hge hnm
              generalize e.mode = md at *
              generalize strOfNums e.name = sn at *
              go_wp2_with (first
                | (refine wpList_load_mid (by rfl) 74 (.tmp 30) (by rfl) b (off + k * 34) (by rfl) er _ hr hun rfl hse ?_)
                | (refine wpList_store_new (by rfl) 74 (.tmp 6) (.tmp 31) (by rfl) wr _ er.toArray (by rfl) (by rfl) hsa (by rw [h34]; rfl) h1 ?_)
                | (go_at_call 17; refine hname.mono ?_; rintro e w2 ⟨rfl, hk2⟩; have HK2 : Hid (Kept [] w w2) := HKA.out.then hk2; clear hk2))
              go_roundw
              case rel => exact ⟨k + 1, by omega, by go_num, HN', HK2⟩
              case measure => simp [intOf]; omega
            · have hnf : nameB e.name = false := by simpa using hnm
              have HF : Hid (faultT es = 32) := faultT_name (by omega) HMA.out (not_all he hnf)
              rw [hnf] at hname
              clear he hge hnm hnf
              generalize e.mode = md at *
              generalize strOfNums e.name = sn at *
              go_wp2_with (first
                | (refine wpList_load_mid (by rfl) 74 (.tmp 30) (by rfl) b (off + k * 34) (by rfl) er _ hr hun rfl hse ?_)
                | (refine wpList_store_new (by rfl) 74 (.tmp 6) (.tmp 31) (by rfl) wr _ er.toArray (by rfl) (by rfl) hsa (by rw [h34]; rfl) h1 ?_)
                | (go_at_call 17; refine hname.mono ?_; rintro e w2 ⟨rfl, hk2⟩; have HK2 : Hid (Kept [] w w2) := HKA.out.then hk2; clear hk2))
              go_ret
              exact ⟨by rw [HF.out]; rfl, HK2.out⟩
          · obtain rfl : k = es.length := by omega
            have HNA : Hid (es.all (fun e => nameB e.name) = true) := all_of fun i e he hi => HN.out i e he hi
            clear HN
            go_wp2
            go_loopw [7] (fun s7 wr => ∃ k : Nat, 1 ≤ k ∧ (k ≤ es.length ∨ k = 1) ∧ s7 = .int .i64 k ∧ Hid (∀ i, i + 1 < k → lessB (nameAt es i) (nameAt es (i + 1)) = true) ∧ Hid (Kept [] w wr)) (fun s7 _ => es.length - (intOf s7).toNat)
            case atStart => exact ⟨1, Nat.le_refl _, Or.inr rfl, rfl, fun i h => absurd h (by omega), HK⟩
            case round =>
              clear HK
              obtain ⟨k, hk1, hk, rfl, HA, HK⟩ := hrel
              by_cases hlt : k < es.length
              · obtain ⟨e, he⟩ : ∃ e, es[k]? = some e := ⟨_, List.getElem?_eq_getElem hlt⟩
                obtain ⟨e0, he0⟩ : ∃ e, es[k - 1]? = some e := ⟨_, List.getElem?_eq_getElem (by omega)⟩
                obtain ⟨ao', cap', hvv, _, _, hc⟩ := (HV.out wr HK.out).form
                injection hvv with e1 e2 e3
                subst e1 e3
                obtain ⟨b, off, rfl, hh⟩ := hc (by rintro rfl; simp at hlt)
                have c1 : wr.cell? ⟨b, off + k * 34 + 1, none⟩ = some (.string (strOfNums e.name)) := hh k e he 1 _ rfl
                have c0 : wr.cell? ⟨b, off + (k - 1) * 34 + 1, none⟩ = some (.string (strOfNums e0.name)) := hh (k - 1) e0 he0 1 _ rfl
                obtain ⟨j, rfl⟩ : ∃ j, k = j + 1 := ⟨k - 1, by omega⟩
                rw [Nat.add_sub_cancel] at c0 he0
                have hij : IntKind.i64.wrap (((j + 1 : Nat) : Int) - 1) = (j : Int) := by rw [IntKind.wrap_i64]; omega
                have HLB : Hid (lessB (nameAt es j) (nameAt es (j + 1)) = Op.bytesLess (strOfNums e0.name).toList (strOfNums e.name).toList) := by
                  unfold nameAt
                  rw [he, he0]
                  exact rfl
                clear hh hc
                generalize hbl : Op.bytesLess (strOfNums e0.name).toList (strOfNums e.name).toList = bl at *
                cases bl
                · have HF : Hid (faultT es = 33) := faultT_asc (by omega) HMA.out HNA.out (by
                    unfold ascB
                    rw [List.all_eq_false]
                    exact ⟨j, List.mem_range.2 (by omega), by rw [HLB.out]; simp⟩)
                  go_wp2
                  go_quiet (fail)
                  go_wp2
                  go_ret
                  exact ⟨by rw [HF.out]; rfl, HK.out.drewN _⟩
                · have HA' : Hid (∀ i, i + 1 < j + 1 + 1 → lessB (nameAt es i) (nameAt es (i + 1)) = true) := fun i hi => by
                    by_cases hij : i = j
                    · subst hij; exact HLB.out
                    · exact HA.out i (by omega)
                  have HKd : Hid (∀ n, Kept [] w (wr.drewN n)) := fun n => HK.out.drewN n
                  go_wp2
                  go_quiet (fail)
                  go_wp2
                  go_roundw
                  case rel => exact ⟨j + 1 + 1, by omega, Or.inl (by omega), by go_num, HA', HKd.out _⟩
                  case measure => simp [intOf]; omega
              · have HF : Hid (faultT es = 0) := faultT_ok (by omega) HMA.out HNA.out (by
                  unfold ascB
                  rw [List.all_eq_true]
                  intro i hi
                  exact HA.out i (by have := List.mem_range.1 hi; omega))
                go_wp2
                go_ret
                exact ⟨by rw [HF.out]; rfl, HK.out⟩
  · have HF : Hid (faultT es = 35) := faultT_many (by omega)
    have hd0 : decide (1024 < (es.length : Int)) = true := decide_eq_true (by omega)
    go_enter Tryd.func102, Tryd.ntmps102
    go_wp2
    go_ret
    exact ⟨by rw [HF.out]; rfl, Kept.refl _ _⟩
end Go.Proofs.YtnfbiemmdaenpaaDoor

namespace Go.Proofs.YtnfbiemmdaenpaaDoor
open Go.RowKit

theorem slice_id (b o : Nat) (W : World) : (Instr.sliceAt 25 (.pointer (some ⟨b, o, none⟩)) none none none).run Tryd.prog W = .ok (.slice (some ⟨b, o, none⟩) 32 32) W := by
  simp [Instr.sliceAt, go_sem, run_underlying Tryd.underlying25]
theorem range_bytes {w : World} {b o : Nat} {xs : List Int} (h : w.rangeAt b o (xs.map (Value.int .u8))) : BytesAt w (.slice (some ⟨b, o, none⟩) xs.length xs.length) xs :=
  ⟨_, _, rfl, Nat.le_refl _, fun e => (by cases e), fun _ => ⟨b, o, rfl, fun i u hu => h i _ (by rw [List.getElem?_map, hu]; rfl)⟩⟩

def entB (e : EntL) : List Int := fixedB e.mode 1 ++ (varB e.name.length ++ e.name) ++ e.id
def entsB (es : List EntL) : List Int := es.flatMap entB
/-- A tree's encoding. -/
def encT (es : List EntL) : List Int := fixedB 2 1 ++ varB es.length ++ entsB es
theorem entsB_succ {es : List EntL} {k : Nat} {e : EntL} (h : es[k]? = some e) : entsB (es.take (k + 1)) = entsB (es.take k) ++ entB e := by
  have hlt : k < es.length := (List.getElem?_eq_some_iff.1 h).1
  have ho : es[k] = e := (List.getElem?_eq_some_iff.1 h).2
  unfold entsB
  rw [List.take_succ_eq_append_getElem hlt, List.flatMap_append, ho]
  simp
theorem entB_len (e : EntL) (hn : e.name.length ≤ 255) (hi : e.id.length = 32) : (entB e).length ≤ 300 := by
  have := varB_len (e.name.length : Int) (by omega) (by omega)
  unfold entB
  simp only [List.length_append, fixedB_len]
  omega
theorem entsB_len : ∀ es : List EntL, (∀ e, e ∈ es → e.name.length ≤ 255 ∧ e.id.length = 32) → (entsB es).length ≤ es.length * 300
  | [], _ => by simp [entsB]
  | e :: r, h => by
    have h1 := entB_len e (h e (by simp)).1 (h e (by simp)).2
    have h2 := entsB_len r fun x hx => h x (by simp [hx])
    unfold entsB at h2 ⊢
    rw [List.flatMap_cons, List.length_append, List.length_cons]
    omega

/-- A Writer on its way: what it holds, and what has turned since w0. -/
structure WSt (w0 W : World) (wb B : Nat) (zs : List Int) (S S' : List Nat) : Prop where
  at' : WAt W wb B zs S'
  keep : Kept S w0 W
  foot : ∀ x, x ∈ S' → x ∈ S ∨ w0.heap.size ≤ x
theorem WSt.next {w0 W W' : World} {wb B : Nat} {zs us : List Int} {S S' : List Nat} (h : WSt w0 W wb B zs S S') (k : Wrote W W' wb B us S') : ∃ S'', WSt w0 W' wb B us S S'' ∧ Kept S' W W' ∧ ∀ x, x ∈ S'' → x ∈ S' ∨ W.heap.size ≤ x := by
  obtain ⟨S'', hw, hk, hs⟩ := k
  refine ⟨S'', ⟨hw, h.keep.trans hk h.foot, fun x hx => ?_⟩, hk, hs⟩
  rcases hs x hx with h1 | h1
  · exact h.foot x h1
  · exact Or.inr (Nat.le_trans h.keep.size h1)
theorem WSt.kept {w0 W W' : World} {wb B : Nat} {zs : List Int} {S S' : List Nat} (h : WSt w0 W wb B zs S S') (k : Kept [] W W') : WSt w0 W' wb B zs S S' :=
  ⟨h.at'.kept k (by simp), h.keep.then (k.more (by simp)), h.foot⟩
theorem WSt.wrote {w0 W : World} {wb B : Nat} {zs : List Int} {S S' : List Nat} (h : WSt w0 W wb B zs S S') : Wrote w0 W wb B zs S := ⟨S', h.at', h.keep, h.foot⟩
theorem WSt.start {w : World} {wb B : Nat} {zs : List Int} {S : List Nat} (h : WAt w wb B zs S) : WSt w w wb B zs S S := ⟨h, Kept.refl _ _, fun _ hx => Or.inl hx⟩

set_option maxRecDepth 100000 in
set_option maxHeartbeats 2000000 in
theorem treeWrite_any (v : Value) (es : List EntL) {w : World} {wb B : Nat} {zs : List Int} {S : List Nat} (h : WAt w wb B zs S) (hBw : B ≤ w.heap.size) (hv : EntsAt w v es) (hd : es ≠ [] → ∀ b, blkOf v = some b → b ∉ S)
    (hg : ∀ e, e ∈ es → e.Good ∧ 0 ≤ e.mode ∧ e.mode ≤ 255 ∧ e.name.length ≤ 255) (hn : es.length ≤ 1024) (hz : zs.length ≤ 1000000) :
    Calls Tryd.prog 103 #[v, .pointer (some ⟨wb, 0, none⟩)] w fun e w' => e = .returned (.tuple #[]) ∧ Wrote w w' wb B (zs ++ encT es) S := by
  have HV : Hid (∀ W, Kept S w W → EntsAt W v es) := fun W k => hv.keep k hd
  have HG : Hid (∀ e, e ∈ es → e.Good ∧ 0 ≤ e.mode ∧ e.mode ≤ 255 ∧ e.name.length ≤ 255) := hg
  have hun := Tryd.underlying74
  obtain ⟨ao, cap, rfl, hcap, hlen, _⟩ := hv.form
  have hvl := varB_len (es.length : Int) (by omega) (by omega)
  have HW0 : Hid (WSt w w wb B zs S S) := WSt.start h
  have HU0 : Hid (∀ W S', WSt w W wb B zs S S' → Calls Tryd.prog 98 #[.pointer (some ⟨wb, 0, none⟩), .int .u8 2] W fun e w' => e = .returned (.tuple #[]) ∧ Wrote W w' wb B (zs ++ fixedB 2 1) S') := fun W S' q => WU8_any q.at' (Nat.le_trans hBw q.keep.size) 2 (by decide) (by decide) (by omega)
  have HU1 : Hid (∀ W S', WSt w W wb B (zs ++ fixedB 2 1) S S' → Calls Tryd.prog 104 #[.pointer (some ⟨wb, 0, none⟩), .int .u64 es.length] W fun e w' => e = .returned (.tuple #[]) ∧ Wrote W w' wb B (zs ++ fixedB 2 1 ++ varB es.length) S') := fun W S' q => WVar_any q.at' (Nat.le_trans hBw q.keep.size) _ (by omega) (by omega) (by rw [List.length_append, fixedB_len]; omega)
  clear hv hg h
  go_enter Tryd.func103, Tryd.ntmps103
  go_wp2_with (first
    | (go_at_call 98; refine (HU0.out _ _ HW0.out).mono ?_; rintro e w1 ⟨rfl, hw1⟩
       obtain ⟨S1, hs1, _, _⟩ := HW0.out.next hw1
       have HW1 : Hid _ := hs1
       clear hs1 hw1)
    | (go_at_call 104; refine (HU1.out _ _ HW1.out).mono ?_; rintro e w2 ⟨rfl, hw2⟩
       obtain ⟨S2, hs2, _, _⟩ := HW1.out.next hw2
       have HW2 : Hid _ := hs2
       clear hs2 hw2))
  have HH : Hid ((zs ++ fixedB 2 1 ++ varB es.length).length ≤ 1000100) := by
    have : (zs ++ fixedB 2 1 ++ varB es.length).length ≤ 1000100 := by rw [List.length_append, List.length_append, fixedB_len]; omega
    exact this
  have HE : Hid (encT es = fixedB 2 1 ++ varB es.length ++ entsB es) := rfl
  have HA : Hid (zs ++ fixedB 2 1 ++ varB es.length = zs ++ (fixedB 2 1 ++ varB es.length)) := List.append_assoc _ _ _
  generalize zs ++ fixedB 2 1 ++ varB es.length = hs at *
  go_loopw [5, 15] (fun _ s15 wr => ∃ k : Nat, k ≤ es.length ∧ s15 = .int .i64 k ∧ ∃ S', Hid (WSt w wr wb B (hs ++ entsB (es.take k)) S S')) (fun _ s15 _ => es.length - (intOf s15).toNat)
  case atStart => exact ⟨0, Nat.zero_le _, rfl, S2, by rw [List.take_zero]; unfold entsB; rw [List.flatMap_nil, List.append_nil]; exact HW2⟩
  case round =>
    clear HW0 HW1 HW2 HU0 HU1 hvl
    obtain ⟨k, hk, rfl, S3, HW⟩ := hrel
    by_cases hlt : k < es.length
    · obtain ⟨e, he⟩ : ∃ e, es[k]? = some e := ⟨_, List.getElem?_eq_getElem hlt⟩
      obtain ⟨hge, hm0, hm1, hnl⟩ := HG.out e (List.mem_of_getElem? he)
      obtain ⟨ao', cap', hvv, _, _, hc⟩ := (HV.out wr HW.out.keep).form
      injection hvv with e1 e2 e3
      subst e1 e3
      obtain ⟨b, off, rfl, hh⟩ := hc (by rintro rfl; simp at hlt)
      have hr := hh k e he
      have hse : (Tryd.prog.info? 74).map (·.size) = some e.row.length := by rw [EntL.row_len hge.id]; exact Tryd.infoEnt
      have hsa : (Tryd.prog.info? 74).map (·.size) = some e.row.toArray.size := by rw [List.size_toArray]; exact hse
      have h34 : e.row.toArray.size = 34 := by rw [List.size_toArray, EntL.row_len hge.id]
      have h1 := ent_one e
      obtain ⟨x0, x1, x2⟩ := ent_cells wr e
      have hlk : (entsB (es.take k)).length ≤ 307200 := by
        have h1 := entsB_len (es.take k) fun x hx => ⟨(HG.out x (List.mem_of_mem_take hx)).2.2.2, (HG.out x (List.mem_of_mem_take hx)).1.id.1⟩
        have h2 : (es.take k).length ≤ 1024 := by rw [List.length_take]; omega
        omega
      have hvn := varB_len (e.name.length : Int) (by omega) (by omega)
      have HX0 : Hid (WSt w (wr.alloc (.cells e.row.toArray 74)) wb B (hs ++ entsB (es.take k)) S S3) := HW.out.kept ((Kept.refl _ _).alloc _)
      have HXn : Hid (∀ x, x ∈ S3 → x < wr.heap.size) := fun x hx => (HW.out.at'.lt x hx).2
      have HXS : Hid (wr.heap.size < (wr.alloc (.cells e.row.toArray 74)).heap.size) := by
        have : wr.heap.size < (wr.alloc (.cells e.row.toArray 74)).heap.size := by rw [World.size_alloc]; omega
        exact this
      have HEB : Hid (hs ++ entsB (es.take (k + 1)) = hs ++ entsB (es.take k) ++ fixedB e.mode 1 ++ varB e.name.length ++ e.name ++ e.id) := by
        rw [entsB_succ he]
        unfold entB
        have : hs ++ (entsB (es.take k) ++ (fixedB e.mode 1 ++ (varB e.name.length ++ e.name) ++ e.id)) = hs ++ entsB (es.take k) ++ fixedB e.mode 1 ++ varB e.name.length ++ e.name ++ e.id := by simp only [List.append_assoc]
        exact this
      have HLH := HH.out
      have HC1 : Hid (∀ W S', WSt w W wb B (hs ++ entsB (es.take k)) S S' → Calls Tryd.prog 98 #[.pointer (some ⟨wb, 0, none⟩), .int .u8 e.mode] W fun e' w' => e' = .returned (.tuple #[]) ∧ Wrote W w' wb B (hs ++ entsB (es.take k) ++ fixedB e.mode 1) S') := fun W S' q => WU8_any q.at' (Nat.le_trans hBw q.keep.size) _ hm0 hm1 (by rw [List.length_append]; omega)
      have HC2 : Hid (∀ W S', WSt w W wb B (hs ++ entsB (es.take k) ++ fixedB e.mode 1) S S' → Calls Tryd.prog 105 #[.pointer (some ⟨wb, 0, none⟩), .string (strOfNums e.name)] W fun e' w' => e' = .returned (.tuple #[]) ∧ Wrote W w' wb B (hs ++ entsB (es.take k) ++ fixedB e.mode 1 ++ varB e.name.length ++ e.name) S') := fun W S' q => writeText_any q.at' (Nat.le_trans hBw q.keep.size) _ hge.name.1 (by rw [List.length_append, List.length_append, fixedB_len]; omega)
      have HC3 : Hid (∀ W S', WSt w W wb B (hs ++ entsB (es.take k) ++ fixedB e.mode 1 ++ varB e.name.length ++ e.name) S S' → W.rangeAt wr.heap.size 2 (e.id.map (Value.int .u8)) → Calls Tryd.prog 99 #[.pointer (some ⟨wb, 0, none⟩), .slice (some ⟨wr.heap.size, 2, none⟩) 32 32] W fun e' w' => e' = .returned (.tuple #[]) ∧ Wrote W w' wb B (hs ++ entsB (es.take k) ++ fixedB e.mode 1 ++ varB e.name.length ++ e.name ++ e.id) S') := fun W S' q hr => by
        have hb := range_bytes hr
        rw [hge.id.1] at hb
        exact WRaw_any q.at' (Nat.le_trans hBw q.keep.size) _ _ hb hge.id.2 (by rw [List.length_append, List.length_append, List.length_append, List.length_append, fixedB_len, hge.id.1]; omega)
      have hsl := fun W => slice_id wr.heap.size 2 W
      have hmw : IntKind.u8.wrap e.mode = e.mode := by rw [IntKind.wrap_u8]; omega
      clear hh hc he hge HLH hnl
      generalize hs ++ entsB (es.take k) = q0 at *
      generalize e.row = er at *
      generalize e.mode = md at *
      go_wp2_with (first
        | (refine wpList_load_mid (by rfl) 74 (.tmp 17) (by rfl) b (off + k * 34) (by rfl) er _ hr hun rfl hse ?_)
        | (refine wpList_store_new (by rfl) 74 (.tmp 5) (.tmp 18) (by rfl) wr _ er.toArray (by rfl) (by rfl) hsa (by rw [h34]; rfl) h1 ?_)
        | (go_at_call 98; refine (HC1.out _ _ HX0.out).mono ?_; rintro e' w5 ⟨rfl, hw5⟩
           obtain ⟨S5, hs5, hk5, hn5⟩ := HX0.out.next hw5
           have y1 := hk5.cell x1 (fun hx => Nat.lt_irrefl _ (HXn.out _ hx))
           have y2 := range_kept x2 hk5 (fun hx => Nat.lt_irrefl _ (HXn.out _ hx))
           have HX5 : Hid _ := hs5
           have HN5 : Hid (wr.heap.size ∉ S5) := fun hx => by
             rcases hn5 _ hx with h | h
             · exact Nat.lt_irrefl _ (HXn.out _ h)
             · have := HXS.out; omega
           clear hs5 hw5 hk5 hn5)
        | (go_at_call 105; refine (HC2.out _ _ HX5.out).mono ?_; rintro e' w6 ⟨rfl, hw6⟩
           obtain ⟨S6, hs6, hk6, _⟩ := HX5.out.next hw6
           have z2 := range_kept y2 hk6 HN5.out
           have HX6 : Hid _ := hs6
           clear hs6 hw6 hk6)
        | (go_at_call 99; refine (HC3.out _ _ HX6.out z2).mono ?_; rintro e' w7 ⟨rfl, hw7⟩
           obtain ⟨S7, hs7, _, _⟩ := HX6.out.next hw7
           have HX7 : Hid _ := hs7
           clear hs7 hw7))
      go_roundw
      case rel => exact ⟨k + 1, by omega, by go_num, S7, by rw [HEB.out]; exact HX7⟩
      case measure => simp [intOf]; omega
    · obtain rfl : k = es.length := by omega
      have HF : Hid (Wrote w wr wb B (zs ++ encT es) S) := by
        have h := HW.out.wrote
        rw [List.take_length, HA.out, List.append_assoc, ← HE.out] at h
        exact h
      clear HW
      go_wp2
      go_end0
      exact ⟨rfl, HF.out⟩
end Go.Proofs.YtnfbiemmdaenpaaDoor
