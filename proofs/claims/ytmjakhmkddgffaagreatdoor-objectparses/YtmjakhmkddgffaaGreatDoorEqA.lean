/-
  LISTS OF STRUCTS OPENED, whatever the struct: what a reading of one says of memory.
  WALK: satchelref0.Copy, for every slice of bytes.
  PLAIN MATHEMATICS: a decoder of UTF-8 and a reader of its signs, both as numbers.
  WALK: a Writer's Len.
  WALKS: satchelref0.Cmp and Eq over two slices of the same bytes; satchellaw1.into.
-/
import Derived.Test.YtmjakhmkddgffaaGreatDoorOpenB
import Derived.Test.YtmjakhmkddgffaaGreatDoorFixB
import Derived.Test.YtmjakhmkddgffaaGreatDoorPlain
import Derived.Deep.QuietTactic
import Derived.BigQuiet
namespace Go.Proofs.YtmjakhmkddgffaaGreatDoor
open Go.ChangeShapes Go.WideShapes Go.ChangeAt Go.RowKit Go.Deep

/-- A string's bytes as numbers. -/
def numsOf (s : ByteArray) : List Int := s.data.toList.map fun b => (b.toNat : Int)
theorem nums_str (s : ByteArray) : strOfNums (numsOf s) = s := by
  have e : (numsOf s).map (fun n => UInt8.ofNat n.toNat) = s.data.toList := by
    unfold numsOf
    rw [List.map_map]
    conv => rhs; rw [← List.map_id s.data.toList]
    exact List.map_congr_left fun b _ => by simp
  show (⟨((numsOf s).map fun n => UInt8.ofNat n.toNat).toArray⟩ : ByteArray) = s
  rw [e]
theorem nums_octs (s : ByteArray) : Octs (numsOf s) := fun u hu => by
  obtain ⟨b, _, rfl⟩ := List.mem_map.1 hu
  have := b.toNat_lt
  omega
theorem drop_cut {α : Type} (cs : List α) (o n : Nat) : cs.drop o = (cs.drop o).take n ++ cs.drop (o + n) := by
  rw [← List.drop_drop, List.take_append_drop]

section
variable {H : Type} {enc : TypeId × Value → H} {w : World} {base : Nat} {spare : Nat → Bool} {held : Bool} {fuel : Nat} {cs : List Value} {x : DataW H × List MemPlace}
theorem weights_each (e : TypeId) (l : List (DataW H)) (B : Nat) (h : (DataW.weightsAll Tryz.prog e l).all (· ≤ B) = true) : ∀ d, d ∈ l → (DataW.weights Tryz.prog e d).all (· ≤ B) = true := by
  induction l with
  | nil => intro d hd; simp at hd
  | cons a l ih =>
    intro d hd
    simp only [DataW.weightsAll, List.all_append, Bool.and_eq_true] at h
    rcases List.mem_cons.1 hd with rfl | hd
    · exact h.1
    · exact ih h.2 d hd

set_option maxRecDepth 100000 in
/-- A list of structs of k cells, opened: each element is a thing of its own that lies in the list's row. -/
theorem open_rowl {t e : TypeId} {k : Nat} {α : Type} [Inhabited α] (row : α → List Value) (G : α → Prop) (B : Nat) (ht : Tryz.prog.underlying t = some (.slice e)) (hk : Tryz.prog.cellsOf e = k) (hk0 : 0 < k)
    (h : DataW.trod enc Tryz.prog w base spare held fuel t cs = some x)
    (hel : ∀ fuel cs x, DataW.trod enc Tryz.prog w base spare held fuel e cs = some x → ∃ a : α, cs = row a ∧ ((DataW.weights Tryz.prog e x.1).all (· ≤ B) = true → G a)) :
    ∃ ao cap ls, cs = [.slice ao ls.length cap] ∧ ls.length ≤ cap ∧ (ao = none → cap = 0) ∧ (ls ≠ [] → ∃ b off, ao = some ⟨b, off, none⟩ ∧ ∀ (i : Nat) (a : α), ls[i]? = some a → w.rangeAt b (off + i * k) (row a)) ∧
      ((DataW.weights Tryz.prog t x.1).all (· ≤ B) = true → ls.length * Tryz.prog.bytesOf e ≤ B ∧ ∀ a, a ∈ ls → G a) := by
  rcases open_slice ht h with ⟨rfl, rfl⟩ | ⟨a, len, cap, m, n, D, Pl, rfl, _, hl, hm, hmm, rfl, hee⟩
  · exact ⟨none, 0, [], rfl, Nat.le_refl _, fun _ => rfl, fun e => absurd rfl e, fun _ => ⟨by simp, fun a ha => by cases ha⟩⟩
  · have hlm : len ≤ m := by rw [hmm]; split <;> omega
    have hop : ∀ i, i < len → ∃ o : α, w.cells? base (a.add (i * k)) k = some (row o) ∧ ((DataW.weights Tryz.prog e (D i)).all (· ≤ B) = true → G o) := by
      intro i hi
      obtain ⟨cs', hc, hte⟩ := hee i (by omega)
      rw [hk] at hc
      obtain ⟨o, rfl, hg⟩ := hel _ _ _ hte
      exact ⟨o, hc, hg⟩
    obtain ⟨O, hO⟩ := choose_lt hop
    have hlen : ((List.range len).map O).length = len := by simp
    refine ⟨some a, cap, (List.range len).map O, by rw [hlen], by rw [hlen]; exact hl, fun e => by simp at e, fun hne => ?_, fun hB => ?_⟩
    · have hpos : 0 < len := by
        rcases Nat.eq_zero_or_pos len with h0 | h0
        · subst h0; simp at hne
        · exact h0
      obtain ⟨b, off, spot⟩ := a
      have hl0 := (World.cells?_some (hO 0 hpos).1)
      have hspot : spot = none := by
        have h1 := hl0.2.2 0 hk0
        have hg0 : (row (O 0)).length = k := hl0.2.1
        obtain ⟨c0, hc0⟩ : ∃ c, (row (O 0))[0]? = some c := ⟨(row (O 0))[0], List.getElem?_eq_getElem (by omega)⟩
        rw [hc0] at h1
        simpa [Addr.add] using World.cell?_spot h1
      subst hspot
      refine ⟨b, off, rfl, fun i o ho => ?_⟩
      have hi : i < len := by have := (List.getElem?_eq_some_iff.1 ho).1; omega
      have eo : O i = o := by simpa [hi] using ho
      have hc := World.cells?_some (hO i hi).1
      rw [eo] at hc
      intro j c hj
      have hjk : j < k := by have := (List.getElem?_eq_some_iff.1 hj).1; have := hc.2.1; omega
      have h1 := hc.2.2 j hjk
      rw [hj] at h1
      simpa [Addr.add_mid] using h1
    · simp only [DataW.weights, ht, List.all_cons, List.all_append, Bool.and_eq_true, decide_eq_true_eq, List.length_map, List.length_range] at hB
      obtain ⟨hB1, hB2, _⟩ := hB
      refine ⟨?_, ?_⟩
      · rw [hlen]
        have : len * Tryz.prog.bytesOf e ≤ (len + (m - len)) * Tryz.prog.bytesOf e := Nat.mul_le_mul_right _ (by omega)
        omega
      · intro o ho
        simp only [List.mem_map, List.mem_range] at ho
        obtain ⟨i, hi, rfl⟩ := ho
        exact (hO i hi).2 (weights_each _ _ _ hB2 _ (List.mem_map.2 ⟨i, List.mem_range.2 (by omega), rfl⟩))
end
end Go.Proofs.YtmjakhmkddgffaaGreatDoor

namespace Go.Proofs.YtmjakhmkddgffaaGreatDoor
open Go.RowKit

set_option maxHeartbeats 400000 in
theorem Copy_any (v : Value) (ys : List Int) (w : World) (h : BytesAt w v ys) (hm : ys.length ≤ 140737488355328) :
    Calls Tryz.prog 35 #[v] w fun e w' => e = .returned (.slice (some ⟨w.heap.size, 0, none⟩) ys.length ys.length) ∧
      w'.heap[w.heap.size]? = some (.cells (ys.map (Value.int .u8)).toArray 5 (0, 0)) ∧ Kept [] w w' := by
  obtain ⟨ao, cap, rfl, hc, hnil, hcell⟩ := h
  have hmk := run_make_row' (P := Tryz.prog) 26 5 (.int .u8 0) 1 Tryz.underlying26 Tryz.info_u8 rfl .i64 .i64 ys.length (by omega) (by omega)
  obtain ⟨cs, hcs⟩ : ∃ cs, cs = ys.map (Value.int .u8) := ⟨_, rfl⟩
  have HC : Hid (cs = ys.map (Value.int .u8)) := hcs
  clear hcs
  go_enter Tryz.func35, Tryz.ntmps35
  go_wp2_with (refine wpList_copy_splice rfl (.tmp 7) (.tmp 8) 26 26 rfl 5 Tryz.underlying26 Tryz.size_u8 _ _ _ _ _ _ rfl rfl w.heap.size 0 (List.replicate ys.length (.int .u8 0)) 5 ?cg cs ?cn ?cp ?cf ?co w.heap.size w ?cb (Nat.le_refl _) ?_)
  case cg => rw [← toList_madeCells_one]; exact heap_alloc_new w _
  case cn => rw [HC.out]; simp
  case cp =>
    intro h0
    rw [HC.out] at h0
    obtain ⟨b, off, rfl, hh⟩ := hcell (by rintro rfl; simp at h0)
    refine ⟨_, rfl, fun j u hu => ?_⟩
    rw [HC.out] at hu
    simp only [List.getElem?_map, Option.map_eq_some_iff] at hu
    obtain ⟨z, hz, rfl⟩ := hu
    rw [Addr.add_mid, World.cell?_alloc_lt]
    · exact hh j z hz
    · exact World.block_lt_of_cell? w _ (hh j z hz)
  case cf => rw [HC.out]; simp
  case co => rw [HC.out]; exact map_oneCell ys
  case cb => exact (Below.refl _ _).alloc (Nat.le_refl _) _
  intro w2 hg hb
  go_wp2
  go_ret
  refine ⟨rfl, ?_, kept_of_below hb⟩
  rw [hg.out, splice_all _ _ _ (by rw [HC.out]; simp), HC.out]
end Go.Proofs.YtmjakhmkddgffaaGreatDoor

namespace Go.Proofs.YtmjakhmkddgffaaGreatDoor

/-- The decoder as numbers. -/
def decN (n b0 b1 b2 b3 : Nat) : Nat × Nat :=
  if b0 < 128 then (b0, 1)
  else if b0 / 32 = 6 ∧ 1 < n ∧ b1 / 64 = 2 then (if b0 % 32 * 64 + b1 % 64 ≥ 128 then (b0 % 32 * 64 + b1 % 64, 2) else (65533, 1))
  else if b0 / 16 = 14 ∧ (1 < n ∧ b1 / 64 = 2) ∧ 2 < n ∧ b2 / 64 = 2 then (if b0 % 16 * 4096 + b1 % 64 * 64 + b2 % 64 ≥ 2048 ∧ (b0 % 16 * 4096 + b1 % 64 * 64 + b2 % 64 < 55296 ∨ 57344 ≤ b0 % 16 * 4096 + b1 % 64 * 64 + b2 % 64) ∧ b0 % 16 * 4096 + b1 % 64 * 64 + b2 % 64 ≤ 1114111 then (b0 % 16 * 4096 + b1 % 64 * 64 + b2 % 64, 3) else (65533, 1))
  else if b0 / 8 = 30 ∧ (1 < n ∧ b1 / 64 = 2) ∧ (2 < n ∧ b2 / 64 = 2) ∧ 3 < n ∧ b3 / 64 = 2 then (if b0 % 8 * 262144 + b1 % 64 * 4096 + b2 % 64 * 64 + b3 % 64 ≥ 65536 ∧ (b0 % 8 * 262144 + b1 % 64 * 4096 + b2 % 64 * 64 + b3 % 64 < 55296 ∨ 57344 ≤ b0 % 8 * 262144 + b1 % 64 * 4096 + b2 % 64 * 64 + b3 % 64) ∧ b0 % 8 * 262144 + b1 % 64 * 4096 + b2 % 64 * 64 + b3 % 64 ≤ 1114111 then (b0 % 8 * 262144 + b1 % 64 * 4096 + b2 % 64 * 64 + b3 % 64, 4) else (65533, 1))
  else (65533, 1)
def sgN (n b0 b1 b2 b3 : Nat) : Nat :=
  if b0 < 128 then 1
  else if 194 ≤ b0 ∧ b0 ≤ 223 then (if 1 < n ∧ 128 ≤ b1 ∧ b1 ≤ 191 then 2 else 0)
  else if 224 ≤ b0 ∧ b0 ≤ 239 then (if (1 < n ∧ (if b0 = 224 then 160 else 128) ≤ b1 ∧ b1 ≤ (if b0 = 237 then 159 else 191)) ∧ 2 < n ∧ 128 ≤ b2 ∧ b2 ≤ 191 then 3 else 0)
  else if 240 ≤ b0 ∧ b0 ≤ 244 then (if (1 < n ∧ (if b0 = 240 then 144 else 128) ≤ b1 ∧ b1 ≤ (if b0 = 244 then 143 else 191)) ∧ (2 < n ∧ 128 ≤ b2 ∧ b2 ≤ 191) ∧ 3 < n ∧ 128 ≤ b3 ∧ b3 ≤ 191 then 4 else 0)
  else 0
theorem dec_sg (n b0 b1 b2 b3 : Nat) (h0 : b0 ≤ 255) (h1 : b1 ≤ 255) (h2 : b2 ≤ 255) (h3 : b3 ≤ 255) :
    (sgN n b0 b1 b2 b3 = 0 → decN n b0 b1 b2 b3 = (65533, 1)) ∧ (sgN n b0 b1 b2 b3 ≠ 0 → (decN n b0 b1 b2 b3).2 = sgN n b0 b1 b2 b3 ∧ ¬ ((decN n b0 b1 b2 b3).1 = 65533 ∧ (decN n b0 b1 b2 b3).2 = 1)) := by
  have done0 : ∀ s d, sgN n b0 b1 b2 b3 = s → decN n b0 b1 b2 b3 = d → ((s = 0 ∧ d = (65533, 1)) ∨ (s ≠ 0 ∧ d.2 = s ∧ ¬ (d.1 = 65533 ∧ d.2 = 1))) → (sgN n b0 b1 b2 b3 = 0 → decN n b0 b1 b2 b3 = (65533, 1)) ∧ (sgN n b0 b1 b2 b3 ≠ 0 → (decN n b0 b1 b2 b3).2 = sgN n b0 b1 b2 b3 ∧ ¬ ((decN n b0 b1 b2 b3).1 = 65533 ∧ (decN n b0 b1 b2 b3).2 = 1)) := by
    intro s d hs hd h
    rw [hs, hd]
    rcases h with ⟨h1, h2⟩ | ⟨h1, h2, h3⟩
    · exact ⟨fun _ => h2, fun h => absurd h1 h⟩
    · exact ⟨fun h => absurd h h1, fun _ => ⟨h2, h3⟩⟩
  by_cases c0 : b0 < 128
  · refine done0 1 (b0, 1) (by unfold sgN; rw [if_pos c0]) (by unfold decN; rw [if_pos c0]) (Or.inr ⟨by decide, rfl, fun h => ?_⟩)
    have := h.1
    dsimp only at this
    omega
  by_cases c1 : 194 ≤ b0 ∧ b0 ≤ 223
  · by_cases d1 : 1 < n ∧ 128 ≤ b1 ∧ b1 ≤ 191
    · exact done0 2 _ (by unfold sgN; rw [if_neg c0, if_pos c1, if_pos d1]) (by unfold decN; rw [if_neg c0, if_pos (by omega), if_pos (by omega)]) (Or.inr ⟨by decide, rfl, fun h => absurd h.2 (by simp)⟩)
    · exact done0 0 _ (by unfold sgN; rw [if_neg c0, if_pos c1, if_neg d1]) (by unfold decN; rw [if_neg c0, if_neg (by omega), if_neg (by omega), if_neg (by omega)]) (Or.inl ⟨rfl, rfl⟩)
  by_cases c2 : 224 ≤ b0 ∧ b0 ≤ 239
  · by_cases d2 : (1 < n ∧ (if b0 = 224 then 160 else 128) ≤ b1 ∧ b1 ≤ (if b0 = 237 then 159 else 191)) ∧ 2 < n ∧ 128 ≤ b2 ∧ b2 ≤ 191
    · have e1 : b0 = 224 → 160 ≤ b1 := fun e => by have := d2.1.2.1; rw [if_pos e] at this; exact this
      have e2 : b0 = 237 → b1 ≤ 159 := fun e => by have := d2.1.2.2; rw [if_pos e] at this; exact this
      have e3 : 128 ≤ b1 := by have := d2.1.2.1; split at this <;> omega
      have e4 : b1 ≤ 191 := by have := d2.1.2.2; split at this <;> omega
      have e6 := d2.2
      have e7 := d2.1.1
      have hs : sgN n b0 b1 b2 b3 = 3 := by unfold sgN; rw [if_neg c0, if_neg c1, if_pos c2, if_pos d2]
      clear d2
      exact done0 3 _ hs (by unfold decN; rw [if_neg c0, if_neg (by omega), if_pos (by omega), if_pos (by omega)]) (Or.inr ⟨by decide, rfl, fun h => absurd h.2 (by simp)⟩)
    · have hs : sgN n b0 b1 b2 b3 = 0 := by unfold sgN; rw [if_neg c0, if_neg c1, if_pos c2, if_neg d2]
      by_cases d3 : b0 / 16 = 14 ∧ (1 < n ∧ b1 / 64 = 2) ∧ 2 < n ∧ b2 / 64 = 2
      · have e5 : (b0 = 224 ∧ b1 < 160) ∨ (b0 = 237 ∧ 159 < b1) := by
          by_cases a : b0 = 224
          · rw [if_pos a, if_neg (by omega)] at d2; omega
          · by_cases b : b0 = 237
            · rw [if_neg a, if_pos b] at d2; omega
            · rw [if_neg a, if_neg b] at d2; omega
        clear d2
        exact done0 0 _ hs (by unfold decN; rw [if_neg c0, if_neg (by omega), if_pos d3, if_neg (by omega)]) (Or.inl ⟨rfl, rfl⟩)
      · exact done0 0 _ hs (by unfold decN; clear d2; rw [if_neg c0, if_neg (by omega), if_neg d3, if_neg (by omega)]) (Or.inl ⟨rfl, rfl⟩)
  by_cases c3 : 240 ≤ b0 ∧ b0 ≤ 244
  · by_cases d2 : (1 < n ∧ (if b0 = 240 then 144 else 128) ≤ b1 ∧ b1 ≤ (if b0 = 244 then 143 else 191)) ∧ (2 < n ∧ 128 ≤ b2 ∧ b2 ≤ 191) ∧ 3 < n ∧ 128 ≤ b3 ∧ b3 ≤ 191
    · have e1 : b0 = 240 → 144 ≤ b1 := fun e => by have := d2.1.2.1; rw [if_pos e] at this; exact this
      have e2 : b0 = 244 → b1 ≤ 143 := fun e => by have := d2.1.2.2; rw [if_pos e] at this; exact this
      have e3 : 128 ≤ b1 := by have := d2.1.2.1; split at this <;> omega
      have e4 : b1 ≤ 191 := by have := d2.1.2.2; split at this <;> omega
      have e6 := d2.2
      have e7 := d2.1.1
      have hs : sgN n b0 b1 b2 b3 = 4 := by unfold sgN; rw [if_neg c0, if_neg c1, if_neg c2, if_pos c3, if_pos d2]
      clear d2
      exact done0 4 _ hs (by unfold decN; rw [if_neg c0, if_neg (by omega), if_neg (by omega), if_pos (by omega), if_pos (by omega)]) (Or.inr ⟨by decide, rfl, fun h => absurd h.2 (by simp)⟩)
    · have hs : sgN n b0 b1 b2 b3 = 0 := by unfold sgN; rw [if_neg c0, if_neg c1, if_neg c2, if_pos c3, if_neg d2]
      by_cases d3 : b0 / 8 = 30 ∧ (1 < n ∧ b1 / 64 = 2) ∧ (2 < n ∧ b2 / 64 = 2) ∧ 3 < n ∧ b3 / 64 = 2
      · have e5 : (b0 = 240 ∧ b1 < 144) ∨ (b0 = 244 ∧ 143 < b1) := by
          by_cases a : b0 = 240
          · rw [if_pos a, if_neg (by omega)] at d2; omega
          · by_cases b : b0 = 244
            · rw [if_neg a, if_pos b] at d2; omega
            · rw [if_neg a, if_neg b] at d2; omega
        clear d2
        exact done0 0 _ hs (by unfold decN; rw [if_neg c0, if_neg (by omega), if_neg (by omega), if_pos d3, if_neg (by omega)]) (Or.inl ⟨rfl, rfl⟩)
      · exact done0 0 _ hs (by unfold decN; clear d2; rw [if_neg c0, if_neg (by omega), if_neg (by omega), if_neg d3]) (Or.inl ⟨rfl, rfl⟩)
  have hs : sgN n b0 b1 b2 b3 = 0 := by unfold sgN; rw [if_neg c0, if_neg c1, if_neg c2, if_neg c3]
  by_cases d1 : b0 / 32 = 6 ∧ 1 < n ∧ b1 / 64 = 2
  · exact done0 0 _ hs (by unfold decN; rw [if_neg c0, if_pos d1, if_neg (by omega)]) (Or.inl ⟨rfl, rfl⟩)
  by_cases d3 : b0 / 8 = 30 ∧ (1 < n ∧ b1 / 64 = 2) ∧ (2 < n ∧ b2 / 64 = 2) ∧ 3 < n ∧ b3 / 64 = 2
  · exact done0 0 _ hs (by unfold decN; rw [if_neg c0, if_neg d1, if_neg (by omega), if_pos d3, if_neg (by omega)]) (Or.inl ⟨rfl, rfl⟩)
  · exact done0 0 _ hs (by unfold decN; rw [if_neg c0, if_neg d1, if_neg (by omega), if_neg d3]) (Or.inl ⟨rfl, rfl⟩)
theorem decN_irrel {n b0 b1 b2 b3 g1 g2 g3 : Nat} (h1 : 1 < n → g1 = b1) (h2 : 2 < n → g2 = b2) (h3 : 3 < n → g3 = b3) : decN n b0 g1 g2 g3 = decN n b0 b1 b2 b3 := by
  by_cases c1 : 1 < n
  · obtain rfl := h1 c1
    by_cases c2 : 2 < n
    · obtain rfl := h2 c2
      by_cases c3 : 3 < n
      · obtain rfl := h3 c3; rfl
      · unfold decN; simp [c3]
    · have c3 : ¬ 3 < n := by omega
      unfold decN; simp [c2, c3]
  · have c2 : ¬ 2 < n := by omega
    have c3 : ¬ 3 < n := by omega
    unfold decN; simp [c1]
end Go.Proofs.YtmjakhmkddgffaaGreatDoor

namespace Go.Proofs.YtmjakhmkddgffaaGreatDoor
open Go.RowKit

theorem WLen_any {w : World} {wb B : Nat} {zs : List Int} {S : List Nat} (h : WAt w wb B zs S) : Calls Tryz.prog 29 #[.pointer (some ⟨wb, 0, none⟩)] w fun e w' => e = .returned (.int .i64 zs.length) ∧ w' = w := by
  obtain ⟨ao, cap, hc, _⟩ := h.bytes
  clear h
  go_enter Tryz.func29, Tryz.ntmps29
  go_wp2
  go_ret
  exact ⟨rfl, rfl⟩

end Go.Proofs.YtmjakhmkddgffaaGreatDoor

namespace Go.Proofs.YtmjakhmkddgffaaGreatDoor
open Go.RowKit

theorem cmp_empty (ao bo : Option Addr) (ca cb : Nat) (w : World) : Calls Tryz.prog 38 #[.slice ao 0 ca, .slice bo 0 cb] w fun e w' => e = .returned (.int .i64 0) ∧ ∃ n, w' = w.drewN n := by
  go_enter Tryz.func38, Tryz.ntmps38
  go_wp2
  refine wp_loop_rounds 1 ?_
  rw [rounds_succ]
  go_wp2
  go_ret
  exact ⟨rfl, 0, rfl⟩

set_option maxHeartbeats 1000000 in
theorem cmp_some (b1 o1 c1 b2 o2 c2 : Nat) (ys : List Int) (w : World) (hm : ys.length ≤ 140737488355328)
    (h1 : ∀ i, i < ys.length → w.cell? ⟨b1, o1 + i, none⟩ = some (.int .u8 (ys[i]?.getD 0))) (h2 : ∀ i, i < ys.length → w.cell? ⟨b2, o2 + i, none⟩ = some (.int .u8 (ys[i]?.getD 0))) :
    Calls Tryz.prog 38 #[.slice (some ⟨b1, o1, none⟩) ys.length c1, .slice (some ⟨b2, o2, none⟩) ys.length c2] w fun e w' => e = .returned (.int .i64 0) ∧ ∃ n, w' = w.drewN n := by
  go_enter Tryz.func38, Tryz.ntmps38
  go_wp2
  go_loopw [5] (fun i wr => ∃ k : Nat, k ≤ ys.length ∧ i = .int .i64 k ∧ ∃ n, wr = w.drewN n) (fun i _ => ys.length - (intOf i).toNat)
  case atStart => exact ⟨0, Nat.zero_le _, rfl, 0, rfl⟩
  case round =>
    obtain ⟨k, hk, rfl, n, rfl⟩ := hrel
    by_cases hlt : k < ys.length
    · have g1 := h1 k hlt
      have g2 := h2 k hlt
      obtain ⟨z, hz⟩ : ∃ z, z = ys[k]?.getD 0 := ⟨_, rfl⟩
      rw [← hz] at g1 g2
      clear hz h1 h2
      have i0 : (0 : Int) ≤ (k : Int) := by omega
      have i1 : (k : Int) < (ys.length : Int) := by omega
      go_wp2
      go_quiet (fail)
      go_wp2
      go_quiet (fail)
      go_wp2
      go_roundw
      case rel => exact ⟨k + 1, by omega, by go_num, _, rfl⟩
      case measure => simp [intOf]; omega
    · clear h1 h2
      go_wp2
      go_ret
      exact ⟨rfl, _, rfl⟩

theorem Cmp_same {w : World} {u v : Value} {ys : List Int} (hu : BytesAt w u ys) (hv : BytesAt w v ys) (hm : ys.length ≤ 140737488355328) : Calls Tryz.prog 38 #[u, v] w fun e w' => e = .returned (.int .i64 0) ∧ ∃ n, w' = w.drewN n := by
  rcases hu.parts with ⟨rfl, ao, ca, rfl⟩ | ⟨b1, o1, c1, rfl, _, h0, h1⟩
  · obtain ⟨bo, cb, rfl, _⟩ := hv
    exact cmp_empty ao bo ca cb w
  · rcases hv.parts with ⟨rfl, bo, cb, rfl⟩ | ⟨b2, o2, c2, rfl, _, _, h2⟩
    · simp at h0
    · exact cmp_some b1 o1 c1 b2 o2 c2 ys w hm h1 h2

theorem Eq_same {w : World} {u v : Value} {ys : List Int} (hu : BytesAt w u ys) (hv : BytesAt w v ys) (hm : ys.length ≤ 140737488355328) : Calls Tryz.prog 18 #[u, v] w fun e w' => e = .returned (.bool true) ∧ ∃ n, w' = w.drewN n := by
  have hcall := Cmp_same hu hv hm
  obtain ⟨ao, ca, rfl, _⟩ := hu
  obtain ⟨bo, cb, rfl, _⟩ := hv
  go_enter Tryz.func18, Tryz.ntmps18
  go_wp2_with (go_at_call 38; refine hcall.mono ?_; rintro e w1 ⟨rfl, n, rfl⟩)
  go_ret
  exact ⟨rfl, _, rfl⟩
end Go.Proofs.YtmjakhmkddgffaaGreatDoor
