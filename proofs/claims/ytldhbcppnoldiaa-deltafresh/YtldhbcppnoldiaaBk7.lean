/-
  WALK: (*satchellaw1.Late).Add.
-/
import Derived.Test.YtldhbcppnoldiaaBk6
namespace Go.Proofs.Ytldhbcppnoldiaa
open Go.RowKit

theorem LaS.more {W : World} {B lb : Nat} {vg vw : Value} {L1 L2 : List Value} {gs : List LEnt} (P : LaS W B lb vg vw L1 L2 gs) (x : LEnt) (h1 : OwnB W B x.got x.ys) (h2 : BytesAt W x.want x.ys) (h3 : ∀ b, b ∈ x.blks → b ≠ lb ∧ vg.ownBlock ≠ some b ∧ vw.ownBlock ≠ some b ∧ B ≤ b ∧ b < W.heap.size) (h4 : x.ys.length ≤ 100000000000) (h5 : ∀ y, y ∈ gs → ∀ g, y.got.ownBlock = some g → x.got.ownBlock ≠ some g) : LaS W B lb vg vw L1 L2 (gs ++ [x]) := by
  have hm : ∀ y, y ∈ gs ++ [x] → y ∈ gs ∨ y = x := fun y hy => by simpa using hy
  refine ⟨P.box, P.own, P.owo, P.low, P.ne, fun y hy => ?_, fun y hy => ?_, fun y hy => ?_, fun y hy => ?_, ?_⟩
  · rcases hm y hy with h | h
    · exact P.got y h
    · rw [h]; exact h1
  · rcases hm y hy with h | h
    · exact P.wnt y h
    · rw [h]; exact h2
  · rcases hm y hy with h | h
    · exact P.bl y h
    · rw [h]; exact h3
  · rcases hm y hy with h | h
    · exact P.len y h
    · rw [h]; exact h4
  · rw [List.pairwise_append]
    exact ⟨P.pw, List.pairwise_singleton _ _, fun y hy z hz g hg => by rw [List.mem_singleton.1 hz]; exact h5 y hy g hg⟩

/-- Late with its answers. -/
structure La (W : World) (B lb : Nat) (gs : List LEnt) (S : List Nat) : Prop where
  ex : ∃ vg vw, LaS W B lb vg vw (gs.map LEnt.got) (gs.map LEnt.want) gs ∧ S = footL lb vg vw gs
theorem La.on {W W' : World} {B lb : Nat} {gs : List LEnt} {S T : List Nat} (h : La W B lb gs S) (k : Kept T W W') (hd : ∀ x, x ∈ S → x ∉ T) : La W' B lb gs S := by
  obtain ⟨vg, vw, P, rfl⟩ := h.ex
  exact ⟨vg, vw, P.on k hd, rfl⟩
theorem La.lt {W : World} {B lb : Nat} {gs : List LEnt} {S : List Nat} (h : La W B lb gs S) : ∀ x, x ∈ S → B ≤ x ∧ x < W.heap.size := by
  obtain ⟨vg, vw, P, rfl⟩ := h.ex
  exact P.lt
structure AddedL (W W' : World) (B lb : Nat) (gs : List LEnt) (S : List Nat) (v : Value) : Prop where
  ex : ∃ x S', x.got = v ∧ La W' B lb (gs ++ [x]) S' ∧ Kept S W W' ∧ (∀ y, y ∈ S' → y ∈ S ∨ v.ownBlock = some y ∨ W.heap.size ≤ y)

set_option maxRecDepth 100000 in
set_option maxHeartbeats 4000000 in
theorem Add_any {W : World} {B lb : Nat} {gs : List LEnt} {S : List Nat} (hla : La W B lb gs S) {v u : Value} {ys : List Int} (hv : OwnB W B v ys) (hvb : ∀ g, v.ownBlock = some g → g ∉ S) (hu : BytesAt W u ys) (hub : ys ≠ [] → ∀ g, u.ownBlock = some g → g ∉ S) (ho : Octs ys) (hy : ys.length ≤ 100000000000) (hgl : gs.length ≤ 100000) (hB : B ≤ W.heap.size) :
    Calls Try.prog 11 #[.pointer (some ⟨lb, 0, none⟩), v, u] W fun e w' => e = .returned (.tuple #[]) ∧ AddedL W w' B lb gs S v := by
  obtain ⟨vg, vw, P, rfl⟩ := hla.ex
  clear hla
  obtain ⟨av, cv, rfl⟩ := own_shape hv
  obtain ⟨q0, q1, q2, q3, qf⟩ := P.cells
  have HP : Hid (LaS W B lb vg vw (gs.map LEnt.got) (gs.map LEnt.want) gs) := P
  have own4 := owns_on (T := []) P.own ((Kept.refl [] W).alloc (.cells #[.slice av ys.length cv] 22)) (by simp)
  have hbl4 : B ≤ (W.alloc (.cells #[.slice av ys.length cv] 22)).heap.size := by rw [World.size_alloc]; omega
  have hcell4 : (W.alloc (.cells #[.slice av ys.length cv] 22)).cell? ⟨W.heap.size, 0, none⟩ = some (.slice av ys.length cv) := cell_one_new W (.slice av ys.length cv) 22 0 _ rfl
  have hone4 : (Value.slice av ys.length cv).oneCell' = true := rfl
  have hz4 : (Value.slice none 0 0).cells.size = 1 := rfl
  have hL1 : (gs.map LEnt.got).length ≤ 1000000 := by rw [List.length_map]; omega
  have hL2 : (gs.map LEnt.want).length ≤ 1000000 := by rw [List.length_map]; omega
  have HV : Hid (OwnB W B (.slice av ys.length cv) ys) := hv
  have HVB : Hid (∀ g, (Value.slice av ys.length cv).ownBlock = some g → g ∉ footL lb vg vw gs) := hvb
  have HU : Hid (∀ W', Kept (footL lb vg vw gs) W W' → BytesAt W' u ys) := fun W' k => hu.kept' k (fun hne b hb => hub hne b (by rw [← own_blk_eq]; exact hb))
  clear P hv hvb hu hub
  go_enter Try.func11, Try.ntmps11
  go_wp2_with (
    at_builtin; refine wpList_append_1 (by rfl) (.tmp 10) (.tmp 12) 36 22 (.slice none 0 0) 24 Try.underlying36 Try.info_bytes hz4 (by rfl) (v := vg) (by rfl) own4 (q := W.heap.size) (u := .slice av ys.length cv) (by rfl) hcell4 hone4 hL1 (by decide) hbl4 ?_
    intro vg5 w5 h5 k5 at5
    have hl5 : (gs.map LEnt.got ++ [Value.slice av ys.length cv]).length = gs.length + 1 := by simp
    obtain ⟨g5, c5, rfl⟩ := owns_form h5 (by omega)
    rw [hl5] at at5 ⊢
    have h5 : w5.ownsRow B 22 1 (.slice (some ⟨g5, 0, none⟩) (gs.length + 1) c5) (gs.map LEnt.got ++ [Value.slice av ys.length cv]).length (gs.map LEnt.got ++ [Value.slice av ys.length cv]) := by rw [hl5] at h5 ⊢; exact h5
    obtain ⟨P5, kk5, ft5⟩ := HP.out.push (i := 0) (Or.inl rfl) k5 at5 rfl (Or.inl ⟨rfl, rfl, rfl, h5, rfl⟩)
    have HP5 : Hid (LaS (w5.setCell ⟨lb, 0, none⟩ (.slice (some ⟨g5, 0, none⟩) (gs.length + 1) c5)) B lb (.slice (some ⟨g5, 0, none⟩) (gs.length + 1) c5) vw (gs.map LEnt.got ++ [Value.slice av ys.length cv]) (gs.map LEnt.want) gs) := P5
    have HK5 : Hid (Kept (footL lb vg vw gs) W (w5.setCell ⟨lb, 0, none⟩ (.slice (some ⟨g5, 0, none⟩) (gs.length + 1) c5))) := kk5
    have HF5 : Hid (∀ x, x ∈ footL lb (.slice (some ⟨g5, 0, none⟩) (gs.length + 1) c5) vw gs → x ∈ footL lb vg vw gs ∨ W.heap.size ≤ x) := ft5
    have hb5 := k5.heap (((Kept.refl [] W).alloc _).heap HP.out.box (by simp)) (fun e => HP.out.ne1 lb (by simpa using e) rfl)
    obtain ⟨cb0, qb⟩ : ∃ c, w5.cell? ⟨lb, 0, none⟩ = some c := ⟨vg, (own_facts hb5).1 0⟩
    have qg := (own_facts hb5).2.1 0
    clear P5 kk5 ft5 h5 k5 at5 own4 hl5 hb5)
  clear qb qg q0 q1 q2 q3 qf hcell4 hbl4
  generalize w5.setCell ⟨lb, 0, none⟩ (.slice (some ⟨g5, 0, none⟩) (gs.length + 1) c5) = wa at *
  obtain ⟨r0, r1, r2, r3, rf⟩ := HP5.out.cells
  have kd : Kept [] wa wa.drew := (Kept.refl [] wa).drew
  have hcv1 := (HU.out wa.drew (HK5.out.drew)).conv
  obtain ⟨cap, w1, hcv2, hX, kX, hX2⟩ := conv_txt wa.drew ys ho
  have hds : wa.drew.heap.size = wa.heap.size := rfl
  rw [hds] at hcv2 hX hX2
  have P6 := HP5.out.on (kd.then kX) (fun _ _ => by simp)
  have HP6 : Hid (LaS w1 B lb (.slice (some ⟨g5, 0, none⟩) (gs.length + 1) c5) vw (gs.map LEnt.got ++ [Value.slice av ys.length cv]) (gs.map LEnt.want) gs) := P6
  have HX : Hid (BytesAt w1 (.slice (some ⟨wa.heap.size, 0, none⟩) ys.length cap) ys) := hX
  have HK6 : Hid (Kept (footL lb vg vw gs) W w1) := HK5.out.trans (kd.then kX) (by simp)
  have HS6 : Hid (W.heap.size ≤ wa.heap.size ∧ wa.heap.size < w1.heap.size) := ⟨HK5.out.size, hX2⟩
  obtain ⟨t0, t1, t2, t3, tf⟩ := P6.cells
  have own6 := owns_on (T := []) P6.owo ((Kept.refl [] w1).alloc (.cells #[.slice (some ⟨wa.heap.size, 0, none⟩) ys.length cap] 22)) (by simp)
  have hbl6 : B ≤ (w1.alloc (.cells #[.slice (some ⟨wa.heap.size, 0, none⟩) ys.length cap] 22)).heap.size := by rw [World.size_alloc]; have := HS6.out; omega
  have hcell6 : (w1.alloc (.cells #[.slice (some ⟨wa.heap.size, 0, none⟩) ys.length cap] 22)).cell? ⟨w1.heap.size, 0, none⟩ = some (.slice (some ⟨wa.heap.size, 0, none⟩) ys.length cap) := cell_one_new w1 (.slice (some ⟨wa.heap.size, 0, none⟩) ys.length cap) 22 0 _ rfl
  have t1a : (w1.alloc (.cells #[.slice (some ⟨wa.heap.size, 0, none⟩) ys.length cap] 22)).cell? ⟨lb, 1, none⟩ = some vw := ((Kept.refl [] w1).alloc _).cell t1 (by simp)
  have hone6 : (Value.slice (some ⟨wa.heap.size, 0, none⟩) ys.length cap).oneCell' = true := rfl
  clear kd kX hX hX2 hds P6
  generalize strOfNums ys = SS at *
  go_wp2_with fail
  go_region_law (first
    | (refine step_append_1 rfl (.tmp 20) (.tmp 24) rfl (v := vw) rfl own6 (q := w1.heap.size) (u := .slice (some ⟨wa.heap.size, 0, none⟩) ys.length cap) rfl hcell6 hone6 hL2 hbl6 ?_; intro vw7 w7 h7 k7 at7
       have hl7 : (gs.map LEnt.want ++ [Value.slice (some ⟨wa.heap.size, 0, none⟩) ys.length cap]).length = gs.length + 1 := by simp
       obtain ⟨g7, c7, rfl⟩ := owns_form h7 (by omega)
       rw [hl7] at at7 ⊢
       have h7 : w7.ownsRow B 22 1 (.slice (some ⟨g7, 0, none⟩) (gs.length + 1) c7) (gs.map LEnt.want ++ [Value.slice (some ⟨wa.heap.size, 0, none⟩) ys.length cap]).length (gs.map LEnt.want ++ [Value.slice (some ⟨wa.heap.size, 0, none⟩) ys.length cap]) := by rw [hl7] at h7 ⊢; exact h7
       obtain ⟨P7, kk7, ft7⟩ := HP6.out.push (i := 1) (Or.inr rfl) k7 at7 rfl (Or.inr ⟨rfl, rfl, rfl, h7, rfl⟩)
       have HP7 : Hid (LaS (w7.setCell ⟨lb, 1, none⟩ (.slice (some ⟨g7, 0, none⟩) (gs.length + 1) c7)) B lb (.slice (some ⟨g5, 0, none⟩) (gs.length + 1) c5) (.slice (some ⟨g7, 0, none⟩) (gs.length + 1) c7) (gs.map LEnt.got ++ [Value.slice av ys.length cv]) (gs.map LEnt.want ++ [Value.slice (some ⟨wa.heap.size, 0, none⟩) ys.length cap]) gs) := P7
       have HK7 : Hid (Kept (footL lb (.slice (some ⟨g5, 0, none⟩) (gs.length + 1) c5) vw gs) w1 (w7.setCell ⟨lb, 1, none⟩ (.slice (some ⟨g7, 0, none⟩) (gs.length + 1) c7))) := kk7
       have HF7 : Hid (∀ x, x ∈ footL lb (.slice (some ⟨g5, 0, none⟩) (gs.length + 1) c5) (.slice (some ⟨g7, 0, none⟩) (gs.length + 1) c7) gs → x ∈ footL lb (.slice (some ⟨g5, 0, none⟩) (gs.length + 1) c5) vw gs ∨ w1.heap.size ≤ x) := ft7
       have hb7 := k7.heap (((Kept.refl [] w1).alloc _).heap HP6.out.box (by simp)) (fun e => HP6.out.ne2 lb (by simpa using e) rfl)
       have qc := (own_facts hb7).1 1
       have qd := (own_facts hb7).2.1 1
       have HFin : Hid (AddedL W (w7.setCell ⟨lb, 1, none⟩ (.slice (some ⟨g7, 0, none⟩) (gs.length + 1) c7)) B lb gs (footL lb vg vw gs) (Value.slice av ys.length cv)) := by
         have s6 := HS6.out
         have hk9 : Kept (footL lb vg vw gs) W (w7.setCell ⟨lb, 1, none⟩ (.slice (some ⟨g7, 0, none⟩) (gs.length + 1) c7)) := HK6.out.trans HK7.out HF5.out
         have hvl := World.ownsRow.lt HV.out
         have hl5 := HP5.out.lt
         have hl7' := HP7.out.lt
         have s7 := HK7.out.size
         have hf : ∀ y, y ∈ footL lb (.slice (some ⟨g5, 0, none⟩) (gs.length + 1) c5) (.slice (some ⟨g7, 0, none⟩) (gs.length + 1) c7) gs → y ∈ footL lb vg vw gs ∨ W.heap.size ≤ y := fun y hy2 => by
           rcases HF7.out y hy2 with h | h
           · exact HF5.out y h
           · exact Or.inr (by omega)
         have ov : OwnB (w7.setCell ⟨lb, 1, none⟩ (.slice (some ⟨g7, 0, none⟩) (gs.length + 1) c7)) B (Value.slice av ys.length cv) ys := OwnB.kept HV.out hk9 HVB.out
         have bx : BytesAt (w7.setCell ⟨lb, 1, none⟩ (.slice (some ⟨g7, 0, none⟩) (gs.length + 1) c7)) (Value.slice (some ⟨wa.heap.size, 0, none⟩) ys.length cap) ys := HX.out.kept HK7.out (fun b hb e => by
           obtain rfl : wa.heap.size = b := by simpa [blkOf] using hb
           have := (hl5 _ e).2
           omega)
         have P8 := HP7.out.more ⟨(Value.slice av ys.length cv), (Value.slice (some ⟨wa.heap.size, 0, none⟩) ys.length cap), ys⟩ ov bx (fun b hb => by
           simp only [LEnt.blks, List.mem_append, Option.mem_toList] at hb
           rcases hb with hb | hb
           · have hn := HVB.out b hb
             have hbl := hvl b hb
             have hnf : b ∉ footL lb (.slice (some ⟨g5, 0, none⟩) (gs.length + 1) c5) (.slice (some ⟨g7, 0, none⟩) (gs.length + 1) c7) gs := fun e => by
               rcases hf b e with h | h
               · exact hn h
               · omega
             exact ⟨fun e => hnf (by simp [footL, e]), fun e => hnf (by simp only [footL, List.mem_cons, List.mem_append, Option.mem_toList]; exact Or.inr (Or.inl (Or.inl e))), fun e => hnf (by simp only [footL, List.mem_cons, List.mem_append, Option.mem_toList]; exact Or.inr (Or.inl (Or.inr e))), hbl.1, by have := hk9.size; omega⟩
           · obtain rfl : wa.heap.size = b := by simpa [Value.ownBlock] using hb
             have hnf : wa.heap.size ∉ footL lb (.slice (some ⟨g5, 0, none⟩) (gs.length + 1) c5) (.slice (some ⟨g7, 0, none⟩) (gs.length + 1) c7) gs := fun e => by
               rcases HF7.out _ e with h | h
               · have := (hl5 _ h).2; omega
               · omega
             exact ⟨fun e => hnf (by simp [footL, e]), fun e => hnf (by simp only [footL, List.mem_cons, List.mem_append, Option.mem_toList]; exact Or.inr (Or.inl (Or.inl e))), fun e => hnf (by simp only [footL, List.mem_cons, List.mem_append, Option.mem_toList]; exact Or.inr (Or.inl (Or.inr e))), by omega, by omega⟩) hy (fun y hy2 g hg e => HVB.out g e (by
             simp only [footL, List.mem_cons, List.mem_append, List.mem_flatMap]
             exact Or.inr (Or.inr ⟨y, hy2, by simp [LEnt.blks, hg]⟩)))
         refine ⟨⟨(Value.slice av ys.length cv), (Value.slice (some ⟨wa.heap.size, 0, none⟩) ys.length cap), ys⟩, footL lb (.slice (some ⟨g5, 0, none⟩) (gs.length + 1) c5) (.slice (some ⟨g7, 0, none⟩) (gs.length + 1) c7) (gs ++ [⟨(Value.slice av ys.length cv), (Value.slice (some ⟨wa.heap.size, 0, none⟩) ys.length cap), ys⟩]), rfl, ⟨(.slice (some ⟨g5, 0, none⟩) (gs.length + 1) c5), (.slice (some ⟨g7, 0, none⟩) (gs.length + 1) c7), by simpa using P8, rfl⟩, hk9, fun y hy2 => ?_⟩
         simp only [footL, List.mem_cons, List.mem_append, List.flatMap_append, List.flatMap_cons, List.flatMap_nil, List.append_nil] at hy2
         rcases hy2 with h | h | h | h
         · exact (hf y (by simp [footL, h])).imp id Or.inr
         · exact (hf y (by simp only [footL, List.mem_cons, List.mem_append]; exact Or.inr (Or.inl h))).imp id Or.inr
         · exact (hf y (by simp only [footL, List.mem_cons, List.mem_append]; exact Or.inr (Or.inr h))).imp id Or.inr
         · simp only [LEnt.blks, List.mem_append, Option.mem_toList] at h
           rcases h with h | h
           · exact Or.inr (Or.inl h)
           · obtain rfl : wa.heap.size = y := by simpa [Value.ownBlock] using h
             exact Or.inr (Or.inr (by omega))
       clear P7 kk7 ft7 h7 k7 at7 hl7 hb7))
  all_goals (go_end0; exact ⟨rfl, HFin.out⟩)
end Go.Proofs.Ytldhbcppnoldiaa
