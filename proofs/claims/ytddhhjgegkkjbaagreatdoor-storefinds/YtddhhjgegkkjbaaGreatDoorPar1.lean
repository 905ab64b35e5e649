/-
  PLAIN: the guess of an encoding is the object itself.
  WALK: satchelref3.lay of a tag: the tag's encoding.
  WALKS: satchelref3.lay of a blob, of a commit: their encodings.
  What an encoding is, by the object's kind: its error, its bytes; object.Encode of any object.
  WALKS: object.objectOf of a commit, of a tag.
-/
import Derived.Test.YtddhhjgegkkjbaaGreatDoorRt1
import Derived.Test.YtddhhjgegkkjbaaGreatDoorAgP
import Derived.Test.YtddhhjgegkkjbaaGreatDoorStep
import Derived.Test.YtddhhjgegkkjbaaGreatDoorBack0
import Derived.Deep.OwnRows
import Derived.Test.YtddhhjgegkkjbaaGreatDoorReadC
import Derived.Test.YtddhhjgegkkjbaaGreatDoorAppK
import Derived.Test.YtddhhjgegkkjbaaGreatDoorLk0
import Derived.Test.YtddhhjgegkkjbaaGreatDoorIdEq
namespace Go.Proofs.YtddhhjgegkkjbaaGreatDoor
open Go.RowKit

theorem at_le {xs l tl : List Int} {p : Nat} (h : xs.drop p = l ++ tl) (hp : p ≤ xs.length) : p + l.length ≤ xs.length := by
  have := congrArg List.length h
  rw [List.length_drop, List.length_append] at this
  omega
theorem xAt_at {xs tl : List Int} {x : Int} {p : Nat} (h : xs.drop p = x :: tl) : xAt xs p = x := by
  unfold xAt
  have := congrArg (·[0]?) h
  simp only [List.getElem?_drop, Nat.add_zero, List.getElem?_cons_zero] at this
  rw [this]
  rfl
theorem xAt_in {xs l tl : List Int} {p : Nat} (h : xs.drop p = l ++ tl) {i : Nat} {x : Int} (hi : l[i]? = some x) : xAt xs (p + i) = x := by
  unfold xAt
  have hil := (List.getElem?_eq_some_iff.1 hi).1
  have := congrArg (·[i]?) h
  simp only [List.getElem?_drop, List.getElem?_append_left hil, hi] at this
  rw [this]
  rfl
theorem takeX_at {xs l tl : List Int} {p : Nat} (h : xs.drop p = l ++ tl) : takeX xs p l.length = l := by
  unfold takeX
  refine List.ext_getElem? fun i => ?_
  by_cases hi : i < l.length
  · rw [List.getElem?_map, List.getElem?_range hi, List.getElem?_eq_getElem hi, Option.map_some, xAt_in h (List.getElem?_eq_getElem hi)]
  · rw [List.getElem?_eq_none (by simp; omega), List.getElem?_eq_none (by omega)]
theorem plus_at {xs l tl : List Int} {p : Nat} (h : xs.drop p = l ++ tl) (hp : p ≤ xs.length) : plus xs p l.length = p + l.length := by
  have := at_le h hp
  unfold plus
  omega
theorem varB_sm (n : Int) (h0 : 0 ≤ n) (h1 : n < 128) : varB n = [n] := by
  have hl : lastOf n = 0 := lastOf_is n 0 h0 (by omega) (by simpa using h1) (fun h => absurd h (by decide))
  unfold varB varHead
  rw [hl]
  simp
theorem varB_two (n : Int) (h0 : 128 ≤ n) (h1 : n < 16384) : varB n = [n % 128 + 128, n / 128] := by
  have hl : lastOf n = 1 := lastOf_is n 1 (by omega) (by omega) (by show n < 128 ^ 2; omega) (fun _ => by simpa using h0)
  unfold varB varHead
  rw [hl]
  simp
theorem numG_at {xs tl : List Int} {p : Nat} {n : Int} (h0 : 0 ≤ n) (h1 : n < 16384) (h : xs.drop p = varB n ++ tl) : numG xs p = (n, (varB n).length) := by
  unfold numG
  by_cases hs : n < 128
  · rw [varB_sm n h0 hs] at h ⊢
    have e : xAt xs p = n := xAt_at h
    rw [e, if_pos hs]
    refine Prod.ext ?_ rfl
    show n % 128 = n
    omega
  · rw [varB_two n (by omega) h1] at h ⊢
    have e : xAt xs p = n % 128 + 128 := xAt_at h
    have e2 : xAt xs (p + 1) = n / 128 := xAt_in h (i := 1) rfl
    rw [e, e2, if_neg (by omega), if_pos (by omega)]
    refine Prod.ext ?_ rfl
    show (n % 128 + 128) % 128 + 128 * (n / 128 % 128) = n
    omega
theorem txt_at {xs b tl : List Int} {p : Nat} (hp : p ≤ xs.length) (hb : b.length ≤ 16000) (h : xs.drop p = varB b.length ++ b ++ tl) : txtG xs p = b ∧ txtE xs p = p + (varB b.length ++ b).length := by
  rw [List.append_assoc] at h
  have hn := numG_at (n := (b.length : Int)) (by omega) (by omega) h
  have hq : txtP xs p = p + (varB b.length).length := by unfold txtP; rw [hn]; exact plus_at h hp
  have hd := drop_at h
  have hle := at_le h hp
  have hle2 := at_le hd hle
  have hN : txtN xs p = b.length := by unfold txtN; rw [hn, hq]; show min (b.length : Int).toNat _ = _; rw [Int.toNat_natCast]; omega
  refine ⟨?_, ?_⟩
  · unfold txtG
    rw [hq, hN, hd, List.take_left' rfl]
  · unfold txtE
    rw [hq, hN, List.length_append]
    omega
theorem time_at {xs tl : List Int} {p : Nat} {t : Int} (h0 : 0 ≤ t) (h1 : t ≤ 18446744073709551615) (h : xs.drop p = fixedB t 8 ++ tl) : be (takeX xs p 8) = t := by
  have := takeX_at h
  rw [fixedB_len] at this
  rw [this]
  exact be_fixedB 8 t h0 (by show t < 256 ^ 8; omega)

theorem fixedB_one (k : Int) (h0 : 0 ≤ k) (h1 : k ≤ 255) : fixedB k 1 = [k] := by
  unfold fixedB
  simp
  omega
theorem gTag_encT (t : TagL) (hf : t.Fit) (tl : List Int) : gTag (encG t ++ tl) = t := by
  obtain ⟨h1, h2, h3, h4, h5, h6, h7, h8⟩ := hf
  have d0 : (encG t ++ tl).drop 0 = fixedB 4 1 ++ (t.target ++ (fixedB t.kind 1 ++ (varB t.name.length ++ t.name ++ (varB t.who.length ++ t.who ++ (fixedB t.time 8 ++ (varB t.text.length ++ t.text ++ tl)))))) := by
    rw [List.drop_zero]; unfold encG; simp only [List.append_assoc]
  generalize encG t ++ tl = xs at *
  have l0 := at_le d0 (Nat.zero_le _)
  have d1 := drop_at d0
  rw [fixedB_len, Nat.zero_add] at d1 l0
  have e1 := takeX_at d1
  have q1 := plus_at d1 l0
  have l1 := at_le d1 l0
  have d2 := drop_at d1
  rw [h1] at e1 q1 l1 d2
  have e2 : xAt xs (1 + 32) = t.kind := by
    have e : fixedB t.kind 1 = [t.kind] := fixedB_one t.kind h2 h3
    rw [e] at d2
    exact xAt_at d2
  have q2 := plus_at d2 l1
  have l2 := at_le d2 l1
  have d3 := drop_at d2
  rw [fixedB_len] at q2 l2 d3
  obtain ⟨e3, q3⟩ := txt_at l2 (by omega) d3
  have l3 := at_le d3 l2
  have d4 := drop_at d3
  obtain ⟨e4, q4⟩ := txt_at l3 (by omega) d4
  have l4 := at_le d4 l3
  have d5 := drop_at d4
  have e5 := time_at h6 h7 d5
  have q5 := plus_at d5 l4
  have l5 := at_le d5 l4
  have d6 := drop_at d5
  rw [fixedB_len] at q5 l5 d6
  obtain ⟨e6, _⟩ := txt_at l5 (by omega) d6
  unfold gTag
  simp only [e1, q1, e2, q2, e3, q3, e4, q4, e5, q5, e6]
theorem gTag_enc (t : TagL) (hf : t.Fit) : gTag (encG t) = t := by
  have h := gTag_encT t hf []
  rwa [List.append_nil] at h
/-- The ids of a commit, guessed. -/
theorem gPars_at {xs : List Int} : ∀ (ids : List (List Int)) (p : Nat) (tl : List Int), (∀ o, o ∈ ids → o.length = 32) → p ≤ xs.length → xs.drop p = ids.flatten ++ tl → gPars xs ids.length p = (ids, p + ids.flatten.length)
  | [], p, tl, _, _, _ => by simp [gPars]
  | x :: ids, p, tl, hg, hp, hd => by
    have hx := hg x (by simp)
    rw [List.flatten_cons, List.append_assoc] at hd
    have e := takeX_at hd
    have q := plus_at hd hp
    have l := at_le hd hp
    have d := drop_at hd
    rw [hx] at e q l d
    have ih := gPars_at ids (p + 32) tl (fun o ho => hg o (by simp [ho])) l d
    show gPars xs (ids.length + 1) p = _
    rw [gPars_next xs (ids.length + 1) p (by omega) (by omega), Nat.add_sub_cancel, e, q, ih]
    simp [hx]
    omega
theorem gCom_encT (c : ComL) (hf : c.Fit) (tl : List Int) : gCom (encC c ++ tl) = c := by
  obtain ⟨h1, h2, h3, h4, h5, h6, h7⟩ := hf
  have d0 : (encC c ++ tl).drop 0 = fixedB 3 1 ++ (c.tree ++ (varB c.parents.length ++ (c.parents.flatten ++ (varB c.who.length ++ c.who ++ (fixedB c.time 8 ++ (varB c.text.length ++ c.text ++ tl)))))) := by
    rw [List.drop_zero]; unfold encC; simp only [List.append_assoc]
  generalize encC c ++ tl = xs at *
  have l0 := at_le d0 (Nat.zero_le _)
  have d1 := drop_at d0
  rw [fixedB_len, Nat.zero_add] at d1 l0
  have e1 := takeX_at d1
  have q1 := plus_at d1 l0
  have l1 := at_le d1 l0
  have d2 := drop_at d1
  rw [h1] at e1 q1 l1 d2
  have e2 := numG_at (n := (c.parents.length : Int)) (by omega) (by omega) d2
  have q2 := plus_at d2 l1
  have l2 := at_le d2 l1
  have d3 := drop_at d2
  have e3 := gPars_at c.parents _ _ h2 l2 d3
  have l3 := at_le d3 l2
  have d4 := drop_at d3
  obtain ⟨e4, q4⟩ := txt_at l3 (by omega) d4
  have l4 := at_le d4 l3
  have d5 := drop_at d4
  have e5 := time_at h5 h6 d5
  have q5 := plus_at d5 l4
  have l5 := at_le d5 l4
  have d6 := drop_at d5
  rw [fixedB_len] at q5 l5 d6
  obtain ⟨e6, _⟩ := txt_at l5 (by omega) d6
  unfold gCom
  simp only [e1, q1, e2, q2, Int.toNat_natCast, e3, e4, q4, e5, q5, e6]
theorem gCom_enc (c : ComL) (hf : c.Fit) : gCom (encC c) = c := by
  have h := gCom_encT c hf []
  rwa [List.append_nil] at h
theorem gEnt_at {xs tl : List Int} {p : Nat} {e : EntL} (hf : e.Fit) (hp : p ≤ xs.length) (hd : xs.drop p = entB e ++ tl) : gEnt xs p = e ∧ gEntE xs p = p + (entB e).length ∧ p < xs.length := by
  obtain ⟨h1, h2, h3, h4⟩ := hf
  have el : (entB e).length = 1 + (varB e.name.length ++ e.name).length + 32 := by unfold entB; rw [List.length_append, List.length_append, fixedB_len, h4]
  unfold entB at hd
  simp only [List.append_assoc] at hd
  have l0 := at_le hd hp
  have q0 := plus_at hd hp
  have e0 : xAt xs p = e.mode := by
    rw [fixedB_one e.mode h1 h2] at hd
    exact xAt_at hd
  have d1 := drop_at hd
  rw [fixedB_len] at l0 q0 d1
  rw [← List.append_assoc] at d1
  obtain ⟨e1, q1⟩ := txt_at l0 (by omega) d1
  have l1 := at_le d1 l0
  have d2 := drop_at d1
  have e2 := takeX_at d2
  have q2 := plus_at d2 l1
  rw [h4] at e2 q2
  refine ⟨?_, ?_, by omega⟩
  · unfold gEnt
    simp only [q0, e0, e1, q1, e2]
  · unfold gEntE
    rw [q0, q1, q2, el]
    omega
theorem gEnts_at {xs : List Int} : ∀ (es : List EntL) (p : Nat) (tl : List Int), (∀ e, e ∈ es → e.Fit) → p ≤ xs.length → xs.drop p = entsB es ++ tl → gEnts xs es.length p = (es, p + (entsB es).length)
  | [], p, tl, _, _, _ => by simp [gEnts, entsB]
  | x :: es, p, tl, hg, hp, hd => by
    have e0 : entsB (x :: es) = entB x ++ entsB es := by unfold entsB; rw [List.flatMap_cons]
    rw [e0, List.append_assoc] at hd
    obtain ⟨e, q, hlt⟩ := gEnt_at (hg x (by simp)) hp hd
    have l := at_le hd hp
    have d := drop_at hd
    have ih := gEnts_at es (p + (entB x).length) tl (fun o ho => hg o (by simp [ho])) l d
    show gEnts xs (es.length + 1) p = _
    rw [gEnts_next xs (es.length + 1) p (by omega) hlt, Nat.add_sub_cancel, e, q, ih, e0, List.length_append]
    refine Prod.ext rfl ?_
    show p + (entB x).length + (entsB es).length = p + ((entB x).length + (entsB es).length)
    omega
theorem gTree_encT (es : List EntL) (hn : es.length ≤ 1024) (hf : ∀ e, e ∈ es → e.Fit) (tl : List Int) : gTree (encT es ++ tl) = es := by
  have d0 : (encT es ++ tl).drop 0 = fixedB 2 1 ++ (varB es.length ++ (entsB es ++ tl)) := by
    rw [List.drop_zero]; unfold encT; simp only [List.append_assoc]
  generalize encT es ++ tl = xs at *
  have l0 := at_le d0 (Nat.zero_le _)
  have d1 := drop_at d0
  rw [fixedB_len, Nat.zero_add] at d1 l0
  have e1 := numG_at (n := (es.length : Int)) (by omega) (by omega) d1
  have q1 := plus_at d1 l0
  have l1 := at_le d1 l0
  have d2 := drop_at d1
  have e2 := gEnts_at es _ _ hf l1 d2
  unfold gTree
  rw [e1]
  simp only [Int.toNat_natCast, q1, e2]
theorem gTree_enc (es : List EntL) (hn : es.length ≤ 1024) (hf : ∀ e, e ∈ es → e.Fit) : gTree (encT es) = es := by
  have h := gTree_encT es hn hf []
  rwa [List.append_nil] at h
end Go.Proofs.YtddhhjgegkkjbaaGreatDoor

namespace Go.Proofs.YtddhhjgegkkjbaaGreatDoor
open Go.RowKit

/-- lay between its steps: the object's box, and the list so far. -/
structure LSt (w wr : World) (row : Array Value) (u : Value) (zs : List Int) : Prop where
  box : wr.heap[w.heap.size]? = some (.cells row 61 (0, 0))
  own : OwnB wr (w.heap.size + 1) u zs
  kept : Kept [] w wr
section
variable {w wr w' : World} {row : Array Value} {u u' : Value} {zs us : List Int}
theorem LSt.on (L : LSt w wr row u zs) (k : Kept [] wr w') : LSt w w' row u zs := ⟨k.heap L.box (by simp), L.own.kept k (by simp), L.kept.then k⟩
theorem LSt.low (L : LSt w wr row u zs) : ∀ x, u.ownBlock = some x → w.heap.size + 1 ≤ x := fun x hx => (World.ownsRow.lt L.own x hx).1
end
end Go.Proofs.YtddhhjgegkkjbaaGreatDoor

namespace Go.Proofs.YtddhhjgegkkjbaaGreatDoor
open Go.RowKit

theorem LSt.start (w : World) (row : Array Value) (n : Int) : LSt w ((w.alloc (.cells row 61)).alloc (.cells #[.int .u8 n] 5)) row (.slice (some ⟨w.heap.size + 1, 0, none⟩) 1 1) [n] := by
  have h := OwnB.one (w := w.alloc (.cells row 61)) n
  rw [World.size_alloc] at h
  exact ⟨((Kept.refl [] _).alloc _).heap (heap_alloc_new w _) (by simp), h, ((Kept.refl [] w).alloc _).alloc _⟩

end Go.Proofs.YtddhhjgegkkjbaaGreatDoor

namespace Go.Proofs.YtddhhjgegkkjbaaGreatDoor
open Go.RowKit

def faultO [TabC] (o : ObjL) : Int := if o.kind = 1 then 0 else if o.kind = 2 then faultT o.es else if o.kind = 3 then faultC o.com else if o.kind = 4 then faultG o.tag else 30
def encO (o : ObjL) : List Int := if o.kind = 1 then encB o.blob else if o.kind = 2 then encT o.es else if o.kind = 3 then encC o.com else if o.kind = 4 then encG o.tag else []
theorem nameB_len [TabC] {xs : List Int} (h : nameB xs = true) : xs.length ≤ 255 := by
  unfold nameB lineB at h
  simp only [Bool.and_eq_true, decide_eq_true_eq] at h
  omega
theorem signB_len [TabC] {who : List Int} {time : Int} {text : List Int} (h : signB who time text = true) : who.length ≤ 255 ∧ text.length ≤ 4096 := by
  unfold signB lineB at h
  simp only [Bool.and_eq_true, decide_eq_true_eq] at h
  omega
theorem faultT_zero [TabC] {es : List EntL} (h : faultT es = 0) : es.length ≤ 1024 ∧ ∀ e, e ∈ es → 0 ≤ e.mode ∧ e.mode ≤ 255 ∧ e.name.length ≤ 255 := by
  unfold faultT at h
  split at h
  · exact absurd h (by decide)
  · split at h
    · exact absurd h (by decide)
    · split at h
      · exact absurd h (by decide)
      · rename_i h1 h2 h3
        refine ⟨by omega, fun e he => ?_⟩
        have m1 := List.all_eq_true.1 (by simpa using h2) e he
        have m2 := List.all_eq_true.1 (by simpa using h3) e he
        have := nameB_len m2
        simp only [modeB, Bool.and_eq_true, decide_eq_true_eq] at m1
        omega
theorem faultC_zero [TabC] {c : ComL} (h : faultC c = 0) : c.parents.length ≤ 8 ∧ c.who.length ≤ 255 ∧ c.text.length ≤ 4096 := by
  unfold faultC at h
  split at h
  · exact absurd h (by decide)
  · split at h
    · exact absurd h (by decide)
    · split at h
      · exact absurd h (by decide)
      · rename_i h1 h2 h3
        have := signB_len (who := c.who) (time := c.time) (text := c.text) (by simpa using h3)
        omega
theorem faultG_zero [TabC] {t : TagL} (h : faultG t = 0) : 0 ≤ t.kind ∧ t.kind ≤ 255 ∧ t.name.length ≤ 255 ∧ t.who.length ≤ 255 ∧ t.text.length ≤ 4096 := by
  unfold faultG at h
  split at h
  · exact absurd h (by decide)
  · split at h
    · exact absurd h (by decide)
    · split at h
      · exact absurd h (by decide)
      · rename_i h1 h2 h3
        have m1 : modeB t.kind = true := by simpa using h1
        have m2 := nameB_len (xs := t.name) (by simpa using h2)
        have := signB_len (who := t.who) (time := t.time) (text := t.text) (by simpa using h3)
        simp only [modeB, Bool.and_eq_true, decide_eq_true_eq] at m1
        omega
end Go.Proofs.YtddhhjgegkkjbaaGreatDoor

namespace Go.Proofs.YtddhhjgegkkjbaaGreatDoor
open Go.RowKit

set_option maxRecDepth 100000 in
set_option maxHeartbeats 2000000 in
theorem objectOfCom (c : ComL) (pv : Value) (w : World) (hl : c.tree.length = 32) (hpo : (comO c pv).row.toArray.all (·.oneCell') = true) (hp1 : (c.row pv).toArray.all (·.oneCell') = true) :
    Calls Tryz.prog 35 #[.iface 102 (.agg (c.row pv).toArray)] w fun e w' => e = .returned (.agg (comO c pv).row.toArray) ∧ Kept [] w w' := by
  have hbl := built_comO c pv hl
  have hsz : (c.row pv).toArray.size = 36 := com_len c pv hl
  have hsi : (Tryz.prog.info? 102).map (·.size) = some (c.row pv).toArray.size := by rw [hsz]; kernel_rfl
  have hoz : (comO c pv).row.toArray.size = 76 := obj_len _ hl rfl
  have hos : (Tryz.prog.info? 61).map (·.size) = some (comO c pv).row.toArray.size := by rw [hoz]; kernel_rfl
  have HZ : Hid ((w.alloc (.cells Tryz.zeroCells61 61)).heap[w.heap.size]? = some (.cells Tryz.zeroCells61 61 (0, 0))) := heap_alloc_new w _
  have hzz : Tryz.zeroCells61.size = (comO c pv).row.toArray.size := by rw [hoz]; kernel_rfl
  have HZ2 : Hid (((w.alloc (.cells Tryz.zeroCells61 61)).alloc (.cells (c.row pv).toArray 102)).heap[w.heap.size]? = some (.cells Tryz.zeroCells61 61 (0, 0))) := (Below.heap_alloc _ _ _ (by rw [World.size_alloc]; omega)).trans HZ.out
  have HC2 : Hid (((w.alloc (.cells Tryz.zeroCells61 61)).alloc (.cells (c.row pv).toArray 102)).heap[w.heap.size + 1]? = some (.cells (c.row pv).toArray 102 (0, 0))) := by
    have h := heap_alloc_new (w.alloc (.cells Tryz.zeroCells61 61)) (.cells (c.row pv).toArray 102)
    rw [World.size_alloc] at h
    exact h
  have HKF : Hid (Kept [] w (((w.alloc (.cells Tryz.zeroCells61 61)).alloc (.cells (c.row pv).toArray 102)).setRow w.heap.size (comO c pv).row.toArray)) := kept_setRow (((Kept.refl [] w).alloc _).alloc _) (Nat.le_refl _) _
  have hin : (w.alloc (.cells Tryz.zeroCells61 61)).heap.size = w.heap.size + 1 := World.size_alloc _ _
  have HOR : Hid (∃ x, x = (comO c pv).row.toArray) := ⟨_, rfl⟩
  generalize (c.row pv).toArray = cr at *
  generalize hob : (comO c pv).row.toArray = orr at *
  clear hob HOR
  have ta1 : ∀ W, (Instr.typeAssert (.iface 102 (.agg cr)) 81 98 true).run Tryz.prog W = .ok (.tuple #[.slice none 0 0, .bool false]) W := fun W => by kernel_rfl
  have ta2 : ∀ W, (Instr.typeAssert (.iface 102 (.agg cr)) 81 100 true).run Tryz.prog W = .ok (.tuple #[.slice none 0 0, .bool false]) W := fun W => by kernel_rfl
  have ta3 : ∀ W, (Instr.typeAssert (.iface 102 (.agg cr)) 81 102 true).run Tryz.prog W = .ok (.tuple #[.agg cr, .bool true]) W := fun W => by kernel_rfl
  go_enter Tryz.func35, Tryz.ntmps35
  go_wp2_with (first
    | (refine wpList_store_new (by rfl) 102 (.tmp 5) (.tmp 20) (by rfl) (w.alloc (.cells Tryz.zeroCells61 61)) _ cr (by simp [hin]; rfl) (by rfl) hsi (by rw [hsz]; rfl) hp1 ?_)
    | (refine wpList_load_row (by rfl) 102 (.tmp 5) (by rfl) (w.heap.size + 1) (by rfl) 102 cr (0, 0) _ HC2.out Tryz.underlying102 rfl hsi ?_)
    | (refine wpList_build_some (by rfl) 61 _ (by rfl) orr (by simp; exact hbl) ?_)
    | (refine wpList_store_row (by rfl) 61 (.tmp 2) (.tmp 22) (by rfl) w.heap.size orr (by rfl) (by rfl) 61 _ HZ2.out hos hzz hpo ?_))
  refine bodyPost_ret (v := .agg orr) ?_ rfl ⟨rfl, HKF.out⟩
  rw [results_cell1 rfl]
  have hld := run_loadVar_row (P := Tryz.prog) (((w.alloc (.cells Tryz.zeroCells61 61)).alloc (.cells cr 102)).setRow w.heap.size orr) w.heap.size 61 61 orr (0, 0) _ (setRow_heap _ _ _ _ _ _ HZ2.out) Tryz.underlying61 rfl hos
  exact hld

set_option maxRecDepth 100000 in
set_option maxHeartbeats 2000000 in
theorem objectOfTag (t : TagL) (w : World) (hl : t.target.length = 32) (hpo : (tagO t).row.toArray.all (·.oneCell') = true) (hp1 : t.row.toArray.all (·.oneCell') = true) :
    Calls Tryz.prog 35 #[.iface 104 (.agg t.row.toArray)] w fun e w' => e = .returned (.agg (tagO t).row.toArray) ∧ Kept [] w w' := by
  have hbl := built_tagO t hl
  have hsz : t.row.toArray.size = 37 := tag_len t hl
  have hsi : (Tryz.prog.info? 104).map (·.size) = some t.row.toArray.size := by rw [hsz]; kernel_rfl
  have hoz : (tagO t).row.toArray.size = 76 := obj_len _ rfl hl
  have hos : (Tryz.prog.info? 61).map (·.size) = some (tagO t).row.toArray.size := by rw [hoz]; kernel_rfl
  have HZ : Hid ((w.alloc (.cells Tryz.zeroCells61 61)).heap[w.heap.size]? = some (.cells Tryz.zeroCells61 61 (0, 0))) := heap_alloc_new w _
  have hzz : Tryz.zeroCells61.size = (tagO t).row.toArray.size := by rw [hoz]; kernel_rfl
  have HZ2 : Hid (((w.alloc (.cells Tryz.zeroCells61 61)).alloc (.cells t.row.toArray 104)).heap[w.heap.size]? = some (.cells Tryz.zeroCells61 61 (0, 0))) := (Below.heap_alloc _ _ _ (by rw [World.size_alloc]; omega)).trans HZ.out
  have HC2 : Hid (((w.alloc (.cells Tryz.zeroCells61 61)).alloc (.cells t.row.toArray 104)).heap[w.heap.size + 1]? = some (.cells t.row.toArray 104 (0, 0))) := by
    have h := heap_alloc_new (w.alloc (.cells Tryz.zeroCells61 61)) (.cells t.row.toArray 104)
    rw [World.size_alloc] at h
    exact h
  have HKF : Hid (Kept [] w (((w.alloc (.cells Tryz.zeroCells61 61)).alloc (.cells t.row.toArray 104)).setRow w.heap.size (tagO t).row.toArray)) := kept_setRow (((Kept.refl [] w).alloc _).alloc _) (Nat.le_refl _) _
  have hin : (w.alloc (.cells Tryz.zeroCells61 61)).heap.size = w.heap.size + 1 := World.size_alloc _ _
  have HOR : Hid (∃ x, x = (tagO t).row.toArray) := ⟨_, rfl⟩
  generalize t.row.toArray = cr at *
  generalize hob : (tagO t).row.toArray = orr at *
  clear hob HOR
  have ta1 : ∀ W, (Instr.typeAssert (.iface 104 (.agg cr)) 81 98 true).run Tryz.prog W = .ok (.tuple #[.slice none 0 0, .bool false]) W := fun W => by kernel_rfl
  have ta2 : ∀ W, (Instr.typeAssert (.iface 104 (.agg cr)) 81 100 true).run Tryz.prog W = .ok (.tuple #[.slice none 0 0, .bool false]) W := fun W => by kernel_rfl
  have ta3 : ∀ W, (Instr.typeAssert (.iface 104 (.agg cr)) 81 102 true).run Tryz.prog W = .ok (.tuple #[.agg (zeroC.row (.slice none 0 0)).toArray, .bool false]) W := fun W => by kernel_rfl
  have ta4 : ∀ W, (Instr.typeAssert (.iface 104 (.agg cr)) 81 104 true).run Tryz.prog W = .ok (.tuple #[.agg cr, .bool true]) W := fun W => by kernel_rfl
  generalize (zeroC.row (.slice none 0 0)).toArray = zcr at *
  go_enter Tryz.func35, Tryz.ntmps35
  go_wp2_with (first
    | (refine wpList_store_new (by rfl) 104 (.tmp 6) (.tmp 25) (by rfl) (w.alloc (.cells Tryz.zeroCells61 61)) _ cr (by simp [hin]; rfl) (by rfl) hsi (by rw [hsz]; rfl) hp1 ?_)
    | (refine wpList_load_row (by rfl) 104 (.tmp 6) (by rfl) (w.heap.size + 1) (by rfl) 104 cr (0, 0) _ HC2.out Tryz.underlying104 rfl hsi ?_)
    | (refine wpList_build_some (by rfl) 61 _ (by rfl) orr (by simp; exact hbl) ?_)
    | (refine wpList_store_row (by rfl) 61 (.tmp 2) (.tmp 27) (by rfl) w.heap.size orr (by rfl) (by rfl) 61 _ HZ2.out hos hzz hpo ?_))
  refine bodyPost_ret (v := .agg orr) ?_ rfl ⟨rfl, HKF.out⟩
  rw [results_cell1 rfl]
  have hld := run_loadVar_row (P := Tryz.prog) (((w.alloc (.cells Tryz.zeroCells61 61)).alloc (.cells cr 104)).setRow w.heap.size orr) w.heap.size 61 61 orr (0, 0) _ (setRow_heap _ _ _ _ _ _ HZ2.out) Tryz.underlying61 rfl hos
  exact hld
end Go.Proofs.YtddhhjgegkkjbaaGreatDoor
