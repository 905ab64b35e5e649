/-
  What an encoding is, by the object's kind: its error, its bytes; object.Encode of any object.
  WALK: satchelref3.Encode, over what Wrong and lay come to.
  Names in line: by the program's compare of texts, by the document's own.
-/
import Derived.Test.YtnfbiemmdaenpaaDoorOxO
import Derived.Test.YtnfbiemmdaenpaaDoorEncTag
import Derived.Test.YtnfbiemmdaenpaaDoorRe6
import Derived.Test.YtnfbiemmdaenpaaDoorEnt1
import Derived.Test.YtnfbiemmdaenpaaDoorHd
import Derived.Lib.Bytes
namespace Go.Proofs.YtnfbiemmdaenpaaDoor
open Go.RowKit

/-- The error of an encoding. -/
def encErr (f : Int) (E : List Int) : Int := if f ≠ 0 then f else if 65536 < E.length then 31 else 0
def faultO (o : ObjL) : Int := if o.kind = 1 then 0 else if o.kind = 2 then faultT o.es else if o.kind = 3 then faultC o.com else if o.kind = 4 then faultG o.tag else 30
def encO (o : ObjL) : List Int := if o.kind = 1 then encB o.blob else if o.kind = 2 then encT o.es else if o.kind = 3 then encC o.com else if o.kind = 4 then encG o.tag else []
def errO (o : ObjL) : Int := encErr (faultO o) (encO o)

theorem errO_len (o : ObjL) : (if errO o = 0 then encO o else []).length ≤ 65536 := by
  split
  · rename_i h
    unfold errO encErr at h
    split at h
    · contradiction
    · split at h
      · exact absurd h (by decide)
      · omega
  · exact Nat.zero_le _
theorem nameB_len {xs : List Int} (h : nameB xs = true) : xs.length ≤ 255 := by
  unfold nameB lineB at h
  simp only [Bool.and_eq_true, decide_eq_true_eq] at h
  omega
theorem signB_len {who : List Int} {time : Int} {text : List Int} (h : signB who time text = true) : who.length ≤ 255 ∧ text.length ≤ 4096 := by
  unfold signB lineB at h
  simp only [Bool.and_eq_true, decide_eq_true_eq] at h
  omega
theorem faultT_zero {es : List EntL} (h : faultT es = 0) : es.length ≤ 1024 ∧ ∀ e, e ∈ es → 0 ≤ e.mode ∧ e.mode ≤ 255 ∧ e.name.length ≤ 255 := by
  unfold faultT at h
  split at h
  · exact absurd h (by decide)
  · split at h
    · exact absurd h (by decide)
    · split at h
      · exact absurd h (by decide)
      · rename_i h1 h2 h3
        refine ⟨by omega, fun e he => ?_⟩
        have m1 := List.all_eq_true.1 (by simpa using h2) e he
        have m2 := List.all_eq_true.1 (by simpa using h3) e he
        have := nameB_len m2
        simp only [modeB, Bool.and_eq_true, decide_eq_true_eq] at m1
        omega
theorem faultC_zero {c : ComL} (h : faultC c = 0) : c.parents.length ≤ 8 ∧ c.who.length ≤ 255 ∧ c.text.length ≤ 4096 := by
  unfold faultC at h
  split at h
  · exact absurd h (by decide)
  · split at h
    · exact absurd h (by decide)
    · split at h
      · exact absurd h (by decide)
      · rename_i h1 h2 h3
        have := signB_len (who := c.who) (time := c.time) (text := c.text) (by simpa using h3)
        omega
theorem faultG_zero {t : TagL} (h : faultG t = 0) : 0 ≤ t.kind ∧ t.kind ≤ 255 ∧ t.name.length ≤ 255 ∧ t.who.length ≤ 255 ∧ t.text.length ≤ 4096 := by
  unfold faultG at h
  split at h
  · exact absurd h (by decide)
  · split at h
    · exact absurd h (by decide)
    · split at h
      · exact absurd h (by decide)
      · rename_i h1 h2 h3
        have m1 : modeB t.kind = true := by simpa using h1
        have m2 := nameB_len (xs := t.name) (by simpa using h2)
        have := signB_len (who := t.who) (time := t.time) (text := t.text) (by simpa using h3)
        simp only [modeB, Bool.and_eq_true, decide_eq_true_eq] at m1
        omega
theorem encT_len {es : List EntL} (h : es.length ≤ 1024) (hn : ∀ e, e ∈ es → e.name.length ≤ 255 ∧ e.id.length = 32) : (encT es).length ≤ 1000000 := by
  have h1 := entsB_len es hn
  have h2 := varB_len (es.length : Int) (by omega) (by omega)
  unfold encT
  rw [List.length_append, List.length_append, fixedB_len]
  omega
theorem encC_len {c : ComL} (h : c.parents.length ≤ 8) (hp : ∀ o, o ∈ c.parents → GoodID o) (ht : c.tree.length = 32) (hw : c.who.length ≤ 255) (hx : c.text.length ≤ 4096) : (encC c).length ≤ 1000000 := by
  have h1 := flat32 c.parents hp
  have h2 := varB_len (c.parents.length : Int) (by omega) (by omega)
  have h3 := varB_len (c.who.length : Int) (by omega) (by omega)
  have h4 := varB_len (c.text.length : Int) (by omega) (by omega)
  unfold encC
  simp only [List.length_append, fixedB_len]
  omega
theorem encG_len {t : TagL} (ht : t.target.length = 32) (hn : t.name.length ≤ 255) (hw : t.who.length ≤ 255) (hx : t.text.length ≤ 4096) : (encG t).length ≤ 1000000 := by
  have h2 := varB_len (t.name.length : Int) (by omega) (by omega)
  have h3 := varB_len (t.who.length : Int) (by omega) (by omega)
  have h4 := varB_len (t.text.length : Int) (by omega) (by omega)
  unfold encG
  simp only [List.length_append, fixedB_len]
  omega

/-- What Encode answers, in one line. -/
def EncA (w : World) (er : Int) (E : List Int) (e : Ending) (w' : World) : Prop := ∃ v, e = .returned (.tuple #[v, .int .i64 er]) ∧ BytesAt w' v (if er = 0 then E else []) ∧ (∀ b, blkOf v = some b → w.heap.size ≤ b) ∧ Kept [] w w'
theorem enc_a {w : World} {fv er : Int} {enc E : List Int} {e : Ending} {w' : World} (h : EncP w fv enc e w') (h0 : fv = 0 → enc = E ∧ er = encErr 0 E) (h1 : fv ≠ 0 → er = fv) : EncA w er E e w' := by
  obtain ⟨hk, ha, hb, hc⟩ := h
  by_cases hf : fv = 0
  · obtain ⟨rfl, rfl⟩ := h0 hf
    by_cases hl : 65536 < enc.length
    · have : encErr 0 enc = 31 := by unfold encErr; rw [if_neg (by simp), if_pos hl]
      rw [this]
      exact ⟨_, hb hf hl, by rw [if_neg (by decide)]; exact BytesAt.nil _, fun b hb => by simp [blkOf] at hb, hk⟩
    · have : encErr 0 enc = 0 := by unfold encErr; rw [if_neg (by simp), if_neg hl]
      rw [this]
      obtain ⟨b, he, hrow, hbb⟩ := hc hf (by omega)
      refine ⟨_, he, ?_, fun b' hb' => ?_, hk⟩
      · rw [if_pos rfl]
        exact row_bytes' hrow
      · obtain rfl : b = b' := by simpa [blkOf] using hb'
        exact hbb
  · obtain rfl := h1 hf
    exact ⟨_, ha hf, by rw [if_neg hf]; exact BytesAt.nil _, fun b hb => by simp [blkOf] at hb, hk⟩

theorem bytes_below {w : World} {v : Value} {ys : List Int} (h : BytesAt w v ys) (hne : ys ≠ []) : ∀ b, blkOf v = some b → b < w.heap.size := fun b hb => by
  obtain ⟨ao, cap, rfl, _, _, hc⟩ := h
  obtain ⟨b', off, rfl, hh⟩ := hc hne
  obtain rfl : b' = b := by simpa [blkOf] using hb
  obtain ⟨x, r, rfl⟩ : ∃ x r, ys = x :: r := by cases ys with | nil => exact absurd rfl hne | cons x r => exact ⟨x, r, rfl⟩
  exact World.block_lt_of_cell? w _ (hh 0 x rfl)
theorem entsL_below {w : World} {v : Value} {es : List EntL} (h : EntsAt w v es) (hne : es ≠ []) : ∀ b, blkOf v = some b → b < w.heap.size := fun b hb => by
  obtain ⟨ao, cap, rfl, _, _, hc⟩ := h.form
  obtain ⟨b', off, rfl, hh⟩ := hc hne
  obtain rfl : b' = b := by simpa [blkOf] using hb
  obtain ⟨x, r, rfl⟩ : ∃ x r, es = x :: r := by cases es with | nil => exact absurd rfl hne | cons x r => exact ⟨x, r, rfl⟩
  exact World.block_lt_of_cell? w _ (hh 0 x rfl 0 (.int .i64 x.mode) rfl)
theorem idsL_below {w : World} {v : Value} {ids : List (List Int)} (h : IdsAt w v ids) (hg : ∀ o, o ∈ ids → o.length = 32) (hne : ids ≠ []) : ∀ b, blkOf v = some b → b < w.heap.size := fun b hb => by
  obtain ⟨ao, cap, rfl, _, _, _, hc⟩ := h
  obtain ⟨b', off, rfl, hh⟩ := hc hne
  obtain rfl : b' = b := by simpa [blkOf] using hb
  obtain ⟨x, r, rfl⟩ : ∃ x r, ids = x :: r := by cases ids with | nil => exact absurd rfl hne | cons x r => exact ⟨x, r, rfl⟩
  have hx := hg x (by simp)
  obtain ⟨u, hu⟩ : ∃ u, (x.map (Value.int .u8))[0]? = some u := ⟨_, List.getElem?_eq_getElem (by rw [List.length_map]; omega)⟩
  exact World.block_lt_of_cell? w _ (hh 0 x rfl 0 u hu)
theorem wat_above {w : World} {wb B : Nat} {zs : List Int} {S : List Nat} (h : WAt w wb B zs S) : ∀ b, b ∈ S → B ≤ b := fun b hb => by
  obtain ⟨ao, cap, _, hown, rfl, _, _, hB⟩ := h
  rcases List.mem_cons.1 hb with rfl | hb
  · exact hB
  · exact (World.ownsRow.lt hown b (by simpa using hb)).1

set_option maxRecDepth 100000 in
set_option maxHeartbeats 2000000 in
theorem encodeRest (o : ObjL) (w : World) (h1 : o.kind ≠ 1) (h2 : o.kind ≠ 2) (h3 : o.kind ≠ 3) (h4 : o.kind ≠ 4) (hlo : -9223372036854775808 ≤ o.kind) (hhi : o.kind ≤ 9223372036854775807) (hc : o.com.tree.length = 32) (ht : o.tag.target.length = 32) :
    Calls Tryd.prog 6 #[.agg o.row.toArray] w fun e w' => e = .returned (.tuple #[.slice none 0 0, .int .i64 30]) ∧ Kept [] w w' := by
  have hcon := fun W => contentOf_any o W hlo hhi hc ht
  have hcv : conV o = .nilIface := by unfold conV; rw [if_neg h1, if_neg h2, if_neg h3, if_neg h4]
  rw [hcv, if_neg (by unfold modeB; simp only [Bool.and_eq_true, decide_eq_true_eq]; omega)] at hcon
  have hsz : (Tryd.prog.info? 33).map (·.size) = some o.row.toArray.size := by
    rw [List.size_toArray, objL_len hc ht]
    kernel_rfl
  have HB : Hid ((w.alloc (.cells o.row.toArray 33)).heap[w.heap.size]? = some (.cells o.row.toArray 33 (0, 0))) := heap_alloc_new w _
  clear hcv
  generalize o.row.toArray = orr at *
  go_enter Tryd.func6, Tryd.ntmps6
  go_wp2_with (first
    | (refine wpList_load_row (by rfl) 33 (.tmp 1) (by rfl) w.heap.size (by rfl) 33 orr (0, 0) _ HB.out Tryd.underlying33 rfl hsz ?_)
    | (go_at_call 19; refine (hcon _).mono ?_; rintro e w1 ⟨rfl, hk1⟩; have HK1 : Hid (Kept [] w w1) := ((Kept.refl [] w).alloc _).then hk1; clear hk1))
  refine bodyPost_ret (v := .tuple #[.slice none 0 0, .int .i64 30]) (by simp [results, Tryd.results6, go_sem]) rfl ⟨rfl, HK1.out⟩

/-- object.Encode, of any object. -/
theorem Encode_any (o : ObjL) (w : World) (hT : Tabs w) (hg : ObjL.Good w o) :
    Calls Tryd.prog 6 #[.agg o.row.toArray] w (EncA w (errO o) (encO o)) := by
  have hc := hg.com.tree.1
  have ht := hg.tag.target.1
  by_cases k1 : o.kind = 1
  · have ef : errO o = encErr 0 (encB o.blob) := by unfold errO faultO encO; rw [if_pos k1, if_pos k1]
    have ee : encO o = encB o.blob := by unfold encO; rw [if_pos k1]
    rw [ef, ee]
    have hbl : (encB o.blob).length = 1 + o.blob.length := by unfold encB; rw [List.length_append, fixedB_len]
    by_cases hl : 65536 < 1 + o.blob.length
    · have hf : faultB o.blob = 31 := if_pos hl
      refine (encodeBlob o w k1 hc ht 31 [] (by decide) (fun W hW => ?_) (fun h => absurd h (by decide))).mono fun e w' h => enc_a h (fun h => absurd h (by decide)) (fun _ => ?_)
      · have := blobFault_any o.bv o.blob W (hg.bv.keep hW (fun _ _ _ => by simp)) hg.blob.2
        rwa [hf] at this
      · unfold encErr; rw [if_neg (by simp), if_pos (by omega)]
    · have hf : faultB o.blob = 0 := if_neg hl
      refine (encodeBlob o w k1 hc ht 0 (encB o.blob) (by omega) (fun W hW => ?_) (fun _ W wb S hW h => ?_)).mono fun e w' h => enc_a h (fun _ => ⟨rfl, rfl⟩) (fun h => absurd rfl h)
      · have := blobFault_any o.bv o.blob W (hg.bv.keep hW (fun _ _ _ => by simp)) hg.blob.2
        rwa [hf] at this
      · have hh := blobWrite_any o.bv o.blob h hW.size (hg.bv.keep hW (fun _ _ _ => by simp)) (fun hne b hb hS => by
          have := bytes_below hg.bv hne b hb
          have := wat_above h b hS
          omega) hg.blob.1 (by simp; omega)
        rwa [List.nil_append] at hh
  · by_cases k2 : o.kind = 2
    · have ef : errO o = encErr (faultT o.es) (encT o.es) := by unfold errO faultO encO; rw [if_neg k1, if_pos k2, if_neg k1, if_pos k2]
      have ee : encO o = encT o.es := by unfold encO; rw [if_neg k1, if_pos k2]
      rw [ef, ee]
      have hfl : ∀ W, Kept [] w W → Calls Tryd.prog 102 #[o.ev] W fun e w' => e = .returned (.int .i64 (faultT o.es)) ∧ Kept [] W w' := fun W hW => treeFault_any o.ev o.es W (hT.kept hW) (hg.ev.keep hW (fun _ _ _ => by simp)) hg.es
      by_cases hf : faultT o.es = 0
      · obtain ⟨hm, hok⟩ := faultT_zero hf
        rw [hf] at hfl ⊢
        refine (encodeTree o w k2 hc ht 0 (encT o.es) (by have := encT_len hm (fun e he => ⟨(hok e he).2.2, (hg.es e he).id.1⟩); omega) hfl (fun _ W wb S hW h => ?_)).mono fun e w' h => enc_a h (fun _ => ⟨rfl, rfl⟩) (fun h => absurd rfl h)
        have hh := treeWrite_any o.ev o.es h hW.size (hg.ev.keep hW (fun _ _ _ => by simp)) (fun hne b hb hS => by
          have := entsL_below hg.ev hne b hb
          have := wat_above h b hS
          omega) (fun e he => ⟨hg.es e he, (hok e he).1, (hok e he).2.1, (hok e he).2.2⟩) (by omega) (by simp)
        rwa [List.nil_append] at hh
      · exact (encodeTree o w k2 hc ht (faultT o.es) [] (by decide) hfl (fun h => absurd h hf)).mono fun e w' h => enc_a h (fun h => absurd h hf) (fun _ => by unfold encErr; rw [if_pos hf])
    · by_cases k3 : o.kind = 3
      · have ef : errO o = encErr (faultC o.com) (encC o.com) := by unfold errO faultO encO; rw [if_neg k1, if_neg k2, if_pos k3, if_neg k1, if_neg k2, if_pos k3]
        have ee : encO o = encC o.com := by unfold encO; rw [if_neg k1, if_neg k2, if_pos k3]
        rw [ef, ee]
        have hfl : ∀ W, Kept [] w W → Calls Tryd.prog 109 #[.agg (o.com.row o.pv).toArray] W fun e w' => e = .returned (.int .i64 (faultC o.com)) ∧ Kept [] W w' := fun W hW => comFault_any o.com o.pv W (hT.kept hW) (hg.pv.keep hW (fun _ _ _ => by simp)) hg.com
        by_cases hf : faultC o.com = 0
        · obtain ⟨h8, hw, hx⟩ := faultC_zero hf
          rw [hf] at hfl ⊢
          refine (encodeCom o w k3 hc ht 0 (encC o.com) (by have := encC_len h8 hg.com.parents hc hw hx; omega) hfl (fun _ W wb S hW h => ?_)).mono fun e w' h => enc_a h (fun _ => ⟨rfl, rfl⟩) (fun h => absurd rfl h)
          have hh := comWrite_any o.com o.pv h hW.size (hg.pv.keep hW (fun _ _ _ => by simp)) (fun hne b hb hS => by
            have := idsL_below hg.pv (fun o ho => (hg.com.parents o ho).1) hne b hb
            have := wat_above h b hS
            omega) hg.com h8 (by simp; omega)
          rwa [List.nil_append] at hh
        · exact (encodeCom o w k3 hc ht (faultC o.com) [] (by decide) hfl (fun h => absurd h hf)).mono fun e w' h => enc_a h (fun h => absurd h hf) (fun _ => by unfold encErr; rw [if_pos hf])
      · by_cases k4 : o.kind = 4
        · have ef : errO o = encErr (faultG o.tag) (encG o.tag) := by unfold errO faultO encO; rw [if_neg k1, if_neg k2, if_neg k3, if_pos k4, if_neg k1, if_neg k2, if_neg k3, if_pos k4]
          have ee : encO o = encG o.tag := by unfold encO; rw [if_neg k1, if_neg k2, if_neg k3, if_pos k4]
          rw [ef, ee]
          have hfl : ∀ W, Kept [] w W → Calls Tryd.prog 116 #[.agg o.tag.row.toArray] W fun e w' => e = .returned (.int .i64 (faultG o.tag)) ∧ Kept [] W w' := fun W hW => tagFault_any o.tag W (hT.kept hW) hg.tag
          by_cases hf : faultG o.tag = 0
          · obtain ⟨g0, g1, hn, hw, hx⟩ := faultG_zero hf
            rw [hf] at hfl ⊢
            refine (encodeTag o w k4 hc ht 0 (encG o.tag) (by have := encG_len ht hn hw hx; omega) hfl (fun _ W wb S hW h => ?_)).mono fun e w' h => enc_a h (fun _ => ⟨rfl, rfl⟩) (fun h => absurd rfl h)
            have hh := tagWrite_any o.tag h hW.size hg.tag g0 g1 (by simp; omega)
            rwa [List.nil_append] at hh
          · exact (encodeTag o w k4 hc ht (faultG o.tag) [] (by decide) hfl (fun h => absurd h hf)).mono fun e w' h => enc_a h (fun h => absurd h hf) (fun _ => by unfold encErr; rw [if_pos hf])
        · have ef : errO o = 30 := by unfold errO faultO encErr; rw [if_neg k1, if_neg k2, if_neg k3, if_neg k4]; rfl
          rw [ef]
          refine (encodeRest o w k1 k2 k3 k4 hg.lo hg.hi hc ht).mono fun e w' h => ⟨_, h.1, by rw [if_neg (by decide)]; exact BytesAt.nil _, fun b hb => by simp [blkOf] at hb, h.2⟩
end Go.Proofs.YtnfbiemmdaenpaaDoor

namespace Go.Proofs.YtnfbiemmdaenpaaDoor
open Go.RowKit

set_option maxRecDepth 100000 in
set_option maxHeartbeats 2000000 in
theorem R3Encode_any (row : Array Value) (w : World) (f : Int) (E : List Int) (hsz : (Tryd.prog.info? 33).map (·.size) = some row.size)
    (HW : ∀ W, Kept [] w W → Calls Tryd.prog 24 #[.agg row] W fun e w' => e = .returned (.int .i64 f) ∧ Kept [] W w')
    (HL : f = 0 → ∀ W, Kept [] w W → Calls Tryd.prog 25 #[.agg row] W fun e w' => ∃ v, e = .returned v ∧ OwnB w' W.heap.size v E ∧ Kept [] W w') :
    Calls Tryd.prog 8 #[.agg row] w fun e w' => ∃ v, e = .returned (.tuple #[v, .int .i64 (encErr f E)]) ∧ BytesAt w' v (if encErr f E = 0 then E else []) ∧ Kept [] w w' := by
  have HB : Hid ((w.alloc (.cells row 33)).heap[w.heap.size]? = some (.cells row 33 (0, 0))) := heap_alloc_new w _
  have HK0 : Hid (Kept [] w (w.alloc (.cells row 33))) := (Kept.refl _ _).alloc _
  have hun := Tryd.underlying33
  have hwr := HW _ HK0.out
  clear HW
  by_cases hf : f = 0
  · have hlay := HL hf
    clear HL
    subst hf
    by_cases hl : 65536 < E.length
    · have t1 : decide ((65536 : Int) < E.length) = true := decide_eq_true (by omega)
      have hE : encErr 0 E = 31 := by unfold encErr; rw [if_neg (by simp), if_pos hl]
      rw [hE, if_neg (by decide)]
      go_enter Tryd.func8, Tryd.ntmps8
      go_wp2_with (refine wpList_load_row (by rfl) 33 (.tmp 1) (by rfl) w.heap.size (by rfl) 33 row (0, 0) _ HB.out hun rfl hsz ?_)
      go_at_call 24
      refine hwr.mono ?_
      rintro e w1 ⟨rfl, k1⟩
      have HB1 : Hid (w1.heap[w.heap.size]? = some (.cells row 33 (0, 0))) := k1.heap HB.out (by simp)
      have HK1 : Hid (Kept [] w w1) := HK0.out.then k1
      have hly := hlay w1 HK1.out
      clear hwr k1 hlay
      go_wp2_with (refine wpList_load_row (by rfl) 33 (.tmp 1) (by rfl) w.heap.size (by rfl) 33 row (0, 0) _ HB1.out hun rfl hsz ?_)
      go_at_call 25
      refine hly.mono ?_
      rintro e w2 ⟨v, rfl, o2, k2⟩
      obtain ⟨ao, cp, rfl⟩ := own_shape o2
      have HK2 : Hid (Kept [] w w2) := HK1.out.then k2
      clear hly o2 k2
      go_wp2
      go_ret2
      exact ⟨_, rfl, BytesAt.nil _, HK2.out⟩
    · have t1 : decide ((65536 : Int) < E.length) = false := decide_eq_false (by omega)
      have hE : encErr 0 E = 0 := by unfold encErr; rw [if_neg (by simp), if_neg hl]
      rw [hE, if_pos rfl]
      go_enter Tryd.func8, Tryd.ntmps8
      go_wp2_with (refine wpList_load_row (by rfl) 33 (.tmp 1) (by rfl) w.heap.size (by rfl) 33 row (0, 0) _ HB.out hun rfl hsz ?_)
      go_at_call 24
      refine hwr.mono ?_
      rintro e w1 ⟨rfl, k1⟩
      have HB1 : Hid (w1.heap[w.heap.size]? = some (.cells row 33 (0, 0))) := k1.heap HB.out (by simp)
      have HK1 : Hid (Kept [] w w1) := HK0.out.then k1
      have hly := hlay w1 HK1.out
      clear hwr k1 hlay
      go_wp2_with (refine wpList_load_row (by rfl) 33 (.tmp 1) (by rfl) w.heap.size (by rfl) 33 row (0, 0) _ HB1.out hun rfl hsz ?_)
      go_at_call 25
      refine hly.mono ?_
      rintro e w2 ⟨v, rfl, o2, k2⟩
      obtain ⟨ao, cp, rfl⟩ := own_shape o2
      have HK2 : Hid (Kept [] w w2) := HK1.out.then k2
      have HO2 : Hid (BytesAt w2 (.slice ao E.length cp) E) := OwnB.bytes o2
      clear hly o2 k2
      go_wp2
      go_ret2
      exact ⟨_, rfl, HO2.out, HK2.out⟩
  · have hE : encErr f E = f := by unfold encErr; rw [if_pos hf]
    rw [hE, if_neg hf]
    clear HL
    have t1 : (f != 0) = true := by simpa using hf
    go_enter Tryd.func8, Tryd.ntmps8
    go_wp2_with (refine wpList_load_row (by rfl) 33 (.tmp 1) (by rfl) w.heap.size (by rfl) 33 row (0, 0) _ HB.out hun rfl hsz ?_)
    go_at_call 24
    refine hwr.mono ?_
    rintro e w1 ⟨rfl, k1⟩
    have HK1 : Hid (Kept [] w w1) := HK0.out.then k1
    clear hwr k1
    go_wp2
    go_ret2
    exact ⟨_, rfl, BytesAt.nil _, HK1.out⟩
end Go.Proofs.YtnfbiemmdaenpaaDoor

namespace Go.Proofs.YtnfbiemmdaenpaaDoor
open Go.RowKit

theorem byteU (a : Int) (h : 0 ≤ a ∧ a ≤ 255) : ((UInt8.ofNat a.toNat).toNat : Int) = a := by
  rw [UInt8.toNat_ofNat']
  omega
theorem less_cmpZ : ∀ (us vs : List Int), Octs us → Octs vs → Op.bytesLess (us.map fun n => UInt8.ofNat n.toNat) (vs.map fun n => UInt8.ofNat n.toNat) = decide (cmpZ us vs < 0)
  | [], [], _, _ => rfl
  | _ :: _, [], _, _ => rfl
  | [], _ :: _, _, _ => rfl
  | a :: x, b :: y, h1, h2 => by
    have ih := less_cmpZ x y (fun u hu => h1 u (List.mem_cons_of_mem _ hu)) (fun u hu => h2 u (List.mem_cons_of_mem _ hu))
    have ha := byteU a (h1 a (List.mem_cons_self ..))
    have hb := byteU b (h2 b (List.mem_cons_self ..))
    simp only [List.map_cons, Op.bytesLess, cmpZ, ih]
    generalize UInt8.ofNat a.toNat = A at *
    generalize UInt8.ofNat b.toNat = B at *
    by_cases hl : a < b
    · have h3 : A < B := UInt8.lt_iff_toNat_lt.2 (by omega)
      simp [hl, h3]
    · have h3 : ¬ A < B := fun h => by have := UInt8.lt_iff_toNat_lt.1 h; omega
      by_cases hg : b < a
      · have h4 : ¬ A = B := fun h => by rw [h] at ha; omega
        simp [hl, hg, h3, h4]
      · have h4 : A = B := UInt8.toNat_inj.1 (by omega)
        simp [hl, hg, h4]
theorem lessB_cmpZ (us vs : List Int) (h1 : Octs us) (h2 : Octs vs) : lessB us vs = decide (cmpZ us vs < 0) := by
  unfold lessB
  rw [Lib.strOfNums_toList, Lib.strOfNums_toList]
  exact less_cmpZ us vs h1 h2
end Go.Proofs.YtnfbiemmdaenpaaDoor
