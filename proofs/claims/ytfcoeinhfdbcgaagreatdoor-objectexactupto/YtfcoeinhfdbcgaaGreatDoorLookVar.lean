/-
  Bytes turned into a string; strings of bytes that are the same.
  PLAIN MATHEMATICS: a decoder of UTF-8 and a reader of its signs, both as numbers.
  WALK: code.copied, for every slice of bytes: a new row that holds the same bytes.
  WALK: code.lookFixed, for every slice of bytes and size 1 to 8.
  WALK: code.lookVar, for every slice of bytes and bound.
-/
import Derived.Test.YtfcoeinhfdbcgaaGreatDoorPlain
import Derived.Laws.BytesArg
import Derived.Outline
namespace Go.Proofs.YtfcoeinhfdbcgaaGreatDoor
open Go.RowKit

theorem BytesAt.conv {w : World} {v : Value} {ys : List Int} (h : BytesAt w v ys) : (convert 26 9 v).run Tryz.prog w = .ok (.string (strOfNums ys)) w := by
  obtain ⟨ao, cap, rfl, hc, hnil, hcell⟩ := h
  by_cases hy : ys = []
  · subst hy
    cases ao with
    | none => exact run_convert_bytes_nil w _ 5 Tryz.underlying26 Tryz.underlying5 0 cap 9 Tryz.underlying9
    | some a =>
      have hl : (loadCells a 0).run Tryz.prog w = .ok (([] : List Int).map (Value.int .u8)).toArray w := run_loadCells_list (P := Tryz.prog) w a [] (fun j v hj => by simp at hj)
      rw [List.length_nil, run_convert_bytes_string w _ 9 5 _ 0 cap Tryz.underlying26 Tryz.underlying5 Tryz.underlying9, run_bytesToString w _ 0 cap [] hl]
      rfl
  · obtain ⟨b, off, rfl, hh⟩ := hcell hy
    refine run_convert_bytes_arg w _ 5 Tryz.underlying26 Tryz.underlying5 b off ys.length cap ys rfl (fun i hi => ?_) 9 Tryz.underlying9
    rw [hh i ys[i] (List.getElem?_eq_getElem hi)]
    simp [List.getD, List.getElem?_eq_getElem hi]

theorem strOfNums_inj {xs ys : List Int} (hx : Octs xs) (hy : Octs ys) : strOfNums xs = strOfNums ys ↔ xs = ys := by
  constructor
  · intro h
    have h1 : (strOfNums xs).data.toList = (strOfNums ys).data.toList := by rw [h]
    rw [strOfNums_data, strOfNums_data] at h1
    apply List.ext_getElem?
    intro i
    have h2 := congrArg (fun l => l[i]?) h1
    simp only [List.getElem?_map] at h2
    cases h3 : xs[i]? with
    | none =>
      rw [h3] at h2
      cases h4 : ys[i]? with
      | none => rfl
      | some b => rw [h4] at h2; simp at h2
    | some a =>
      rw [h3] at h2
      cases h4 : ys[i]? with
      | none => rw [h4] at h2; simp at h2
      | some b =>
        rw [h4] at h2
        simp only [Option.map_some, Option.some.injEq] at h2
        have ha := hx a (List.mem_of_getElem? h3)
        have hb := hy b (List.mem_of_getElem? h4)
        have h5 := congrArg UInt8.toNat h2
        simp only [UInt8.toNat_ofNat'] at h5
        congr 1
        omega
  · rintro rfl; rfl
end Go.Proofs.YtfcoeinhfdbcgaaGreatDoor

namespace Go.Proofs.YtfcoeinhfdbcgaaGreatDoor

/-- The decoder as numbers. -/
def decN (n b0 b1 b2 b3 : Nat) : Nat × Nat :=
  if b0 < 128 then (b0, 1)
  else if b0 / 32 = 6 ∧ 1 < n ∧ b1 / 64 = 2 then (if b0 % 32 * 64 + b1 % 64 ≥ 128 then (b0 % 32 * 64 + b1 % 64, 2) else (65533, 1))
  else if b0 / 16 = 14 ∧ (1 < n ∧ b1 / 64 = 2) ∧ 2 < n ∧ b2 / 64 = 2 then (if b0 % 16 * 4096 + b1 % 64 * 64 + b2 % 64 ≥ 2048 ∧ (b0 % 16 * 4096 + b1 % 64 * 64 + b2 % 64 < 55296 ∨ 57344 ≤ b0 % 16 * 4096 + b1 % 64 * 64 + b2 % 64) ∧ b0 % 16 * 4096 + b1 % 64 * 64 + b2 % 64 ≤ 1114111 then (b0 % 16 * 4096 + b1 % 64 * 64 + b2 % 64, 3) else (65533, 1))
  else if b0 / 8 = 30 ∧ (1 < n ∧ b1 / 64 = 2) ∧ (2 < n ∧ b2 / 64 = 2) ∧ 3 < n ∧ b3 / 64 = 2 then (if b0 % 8 * 262144 + b1 % 64 * 4096 + b2 % 64 * 64 + b3 % 64 ≥ 65536 ∧ (b0 % 8 * 262144 + b1 % 64 * 4096 + b2 % 64 * 64 + b3 % 64 < 55296 ∨ 57344 ≤ b0 % 8 * 262144 + b1 % 64 * 4096 + b2 % 64 * 64 + b3 % 64) ∧ b0 % 8 * 262144 + b1 % 64 * 4096 + b2 % 64 * 64 + b3 % 64 ≤ 1114111 then (b0 % 8 * 262144 + b1 % 64 * 4096 + b2 % 64 * 64 + b3 % 64, 4) else (65533, 1))
  else (65533, 1)
def sgN (n b0 b1 b2 b3 : Nat) : Nat :=
  if b0 < 128 then 1
  else if 194 ≤ b0 ∧ b0 ≤ 223 then (if 1 < n ∧ 128 ≤ b1 ∧ b1 ≤ 191 then 2 else 0)
  else if 224 ≤ b0 ∧ b0 ≤ 239 then (if (1 < n ∧ (if b0 = 224 then 160 else 128) ≤ b1 ∧ b1 ≤ (if b0 = 237 then 159 else 191)) ∧ 2 < n ∧ 128 ≤ b2 ∧ b2 ≤ 191 then 3 else 0)
  else if 240 ≤ b0 ∧ b0 ≤ 244 then (if (1 < n ∧ (if b0 = 240 then 144 else 128) ≤ b1 ∧ b1 ≤ (if b0 = 244 then 143 else 191)) ∧ (2 < n ∧ 128 ≤ b2 ∧ b2 ≤ 191) ∧ 3 < n ∧ 128 ≤ b3 ∧ b3 ≤ 191 then 4 else 0)
  else 0
theorem dec_sg (n b0 b1 b2 b3 : Nat) (h0 : b0 ≤ 255) (h1 : b1 ≤ 255) (h2 : b2 ≤ 255) (h3 : b3 ≤ 255) :
    (sgN n b0 b1 b2 b3 = 0 → decN n b0 b1 b2 b3 = (65533, 1)) ∧ (sgN n b0 b1 b2 b3 ≠ 0 → (decN n b0 b1 b2 b3).2 = sgN n b0 b1 b2 b3 ∧ ¬ ((decN n b0 b1 b2 b3).1 = 65533 ∧ (decN n b0 b1 b2 b3).2 = 1)) := by
  have done0 : ∀ s d, sgN n b0 b1 b2 b3 = s → decN n b0 b1 b2 b3 = d → ((s = 0 ∧ d = (65533, 1)) ∨ (s ≠ 0 ∧ d.2 = s ∧ ¬ (d.1 = 65533 ∧ d.2 = 1))) → (sgN n b0 b1 b2 b3 = 0 → decN n b0 b1 b2 b3 = (65533, 1)) ∧ (sgN n b0 b1 b2 b3 ≠ 0 → (decN n b0 b1 b2 b3).2 = sgN n b0 b1 b2 b3 ∧ ¬ ((decN n b0 b1 b2 b3).1 = 65533 ∧ (decN n b0 b1 b2 b3).2 = 1)) := by
    intro s d hs hd h
    rw [hs, hd]
    rcases h with ⟨h1, h2⟩ | ⟨h1, h2, h3⟩
    · exact ⟨fun _ => h2, fun h => absurd h1 h⟩
    · exact ⟨fun h => absurd h h1, fun _ => ⟨h2, h3⟩⟩
  by_cases c0 : b0 < 128
  · refine done0 1 (b0, 1) (by unfold sgN; rw [if_pos c0]) (by unfold decN; rw [if_pos c0]) (Or.inr ⟨by decide, rfl, fun h => ?_⟩)
    have := h.1
    dsimp only at this
    omega
  by_cases c1 : 194 ≤ b0 ∧ b0 ≤ 223
  · by_cases d1 : 1 < n ∧ 128 ≤ b1 ∧ b1 ≤ 191
    · exact done0 2 _ (by unfold sgN; rw [if_neg c0, if_pos c1, if_pos d1]) (by unfold decN; rw [if_neg c0, if_pos (by omega), if_pos (by omega)]) (Or.inr ⟨by decide, rfl, fun h => absurd h.2 (by simp)⟩)
    · exact done0 0 _ (by unfold sgN; rw [if_neg c0, if_pos c1, if_neg d1]) (by unfold decN; rw [if_neg c0, if_neg (by omega), if_neg (by omega), if_neg (by omega)]) (Or.inl ⟨rfl, rfl⟩)
  by_cases c2 : 224 ≤ b0 ∧ b0 ≤ 239
  · by_cases d2 : (1 < n ∧ (if b0 = 224 then 160 else 128) ≤ b1 ∧ b1 ≤ (if b0 = 237 then 159 else 191)) ∧ 2 < n ∧ 128 ≤ b2 ∧ b2 ≤ 191
    · have e1 : b0 = 224 → 160 ≤ b1 := fun e => by have := d2.1.2.1; rw [if_pos e] at this; exact this
      have e2 : b0 = 237 → b1 ≤ 159 := fun e => by have := d2.1.2.2; rw [if_pos e] at this; exact this
      have e3 : 128 ≤ b1 := by have := d2.1.2.1; split at this <;> omega
      have e4 : b1 ≤ 191 := by have := d2.1.2.2; split at this <;> omega
      have e6 := d2.2
      have e7 := d2.1.1
      have hs : sgN n b0 b1 b2 b3 = 3 := by unfold sgN; rw [if_neg c0, if_neg c1, if_pos c2, if_pos d2]
      clear d2
      exact done0 3 _ hs (by unfold decN; rw [if_neg c0, if_neg (by omega), if_pos (by omega), if_pos (by omega)]) (Or.inr ⟨by decide, rfl, fun h => absurd h.2 (by simp)⟩)
    · have hs : sgN n b0 b1 b2 b3 = 0 := by unfold sgN; rw [if_neg c0, if_neg c1, if_pos c2, if_neg d2]
      by_cases d3 : b0 / 16 = 14 ∧ (1 < n ∧ b1 / 64 = 2) ∧ 2 < n ∧ b2 / 64 = 2
      · have e5 : (b0 = 224 ∧ b1 < 160) ∨ (b0 = 237 ∧ 159 < b1) := by
          by_cases a : b0 = 224
          · rw [if_pos a, if_neg (by omega)] at d2; omega
          · by_cases b : b0 = 237
            · rw [if_neg a, if_pos b] at d2; omega
            · rw [if_neg a, if_neg b] at d2; omega
        clear d2
        exact done0 0 _ hs (by unfold decN; rw [if_neg c0, if_neg (by omega), if_pos d3, if_neg (by omega)]) (Or.inl ⟨rfl, rfl⟩)
      · exact done0 0 _ hs (by unfold decN; clear d2; rw [if_neg c0, if_neg (by omega), if_neg d3, if_neg (by omega)]) (Or.inl ⟨rfl, rfl⟩)
  by_cases c3 : 240 ≤ b0 ∧ b0 ≤ 244
  · by_cases d2 : (1 < n ∧ (if b0 = 240 then 144 else 128) ≤ b1 ∧ b1 ≤ (if b0 = 244 then 143 else 191)) ∧ (2 < n ∧ 128 ≤ b2 ∧ b2 ≤ 191) ∧ 3 < n ∧ 128 ≤ b3 ∧ b3 ≤ 191
    · have e1 : b0 = 240 → 144 ≤ b1 := fun e => by have := d2.1.2.1; rw [if_pos e] at this; exact this
      have e2 : b0 = 244 → b1 ≤ 143 := fun e => by have := d2.1.2.2; rw [if_pos e] at this; exact this
      have e3 : 128 ≤ b1 := by have := d2.1.2.1; split at this <;> omega
      have e4 : b1 ≤ 191 := by have := d2.1.2.2; split at this <;> omega
      have e6 := d2.2
      have e7 := d2.1.1
      have hs : sgN n b0 b1 b2 b3 = 4 := by unfold sgN; rw [if_neg c0, if_neg c1, if_neg c2, if_pos c3, if_pos d2]
      clear d2
      exact done0 4 _ hs (by unfold decN; rw [if_neg c0, if_neg (by omega), if_neg (by omega), if_pos (by omega), if_pos (by omega)]) (Or.inr ⟨by decide, rfl, fun h => absurd h.2 (by simp)⟩)
    · have hs : sgN n b0 b1 b2 b3 = 0 := by unfold sgN; rw [if_neg c0, if_neg c1, if_neg c2, if_pos c3, if_neg d2]
      by_cases d3 : b0 / 8 = 30 ∧ (1 < n ∧ b1 / 64 = 2) ∧ (2 < n ∧ b2 / 64 = 2) ∧ 3 < n ∧ b3 / 64 = 2
      · have e5 : (b0 = 240 ∧ b1 < 144) ∨ (b0 = 244 ∧ 143 < b1) := by
          by_cases a : b0 = 240
          · rw [if_pos a, if_neg (by omega)] at d2; omega
          · by_cases b : b0 = 244
            · rw [if_neg a, if_pos b] at d2; omega
            · rw [if_neg a, if_neg b] at d2; omega
        clear d2
        exact done0 0 _ hs (by unfold decN; rw [if_neg c0, if_neg (by omega), if_neg (by omega), if_pos d3, if_neg (by omega)]) (Or.inl ⟨rfl, rfl⟩)
      · exact done0 0 _ hs (by unfold decN; clear d2; rw [if_neg c0, if_neg (by omega), if_neg (by omega), if_neg d3]) (Or.inl ⟨rfl, rfl⟩)
  have hs : sgN n b0 b1 b2 b3 = 0 := by unfold sgN; rw [if_neg c0, if_neg c1, if_neg c2, if_neg c3]
  by_cases d1 : b0 / 32 = 6 ∧ 1 < n ∧ b1 / 64 = 2
  · exact done0 0 _ hs (by unfold decN; rw [if_neg c0, if_pos d1, if_neg (by omega)]) (Or.inl ⟨rfl, rfl⟩)
  by_cases d3 : b0 / 8 = 30 ∧ (1 < n ∧ b1 / 64 = 2) ∧ (2 < n ∧ b2 / 64 = 2) ∧ 3 < n ∧ b3 / 64 = 2
  · exact done0 0 _ hs (by unfold decN; rw [if_neg c0, if_neg d1, if_neg (by omega), if_pos d3, if_neg (by omega)]) (Or.inl ⟨rfl, rfl⟩)
  · exact done0 0 _ hs (by unfold decN; rw [if_neg c0, if_neg d1, if_neg (by omega), if_neg d3]) (Or.inl ⟨rfl, rfl⟩)
theorem decN_irrel {n b0 b1 b2 b3 g1 g2 g3 : Nat} (h1 : 1 < n → g1 = b1) (h2 : 2 < n → g2 = b2) (h3 : 3 < n → g3 = b3) : decN n b0 g1 g2 g3 = decN n b0 b1 b2 b3 := by
  by_cases c1 : 1 < n
  · obtain rfl := h1 c1
    by_cases c2 : 2 < n
    · obtain rfl := h2 c2
      by_cases c3 : 3 < n
      · obtain rfl := h3 c3; rfl
      · unfold decN; simp [c3]
    · have c3 : ¬ 3 < n := by omega
      unfold decN; simp [c2, c3]
  · have c2 : ¬ 2 < n := by omega
    have c3 : ¬ 3 < n := by omega
    unfold decN; simp [c1]
end Go.Proofs.YtfcoeinhfdbcgaaGreatDoor

namespace Go.Proofs.YtfcoeinhfdbcgaaGreatDoor
open Go.RowKit

set_option maxHeartbeats 400000 in
theorem copied_any (v : Value) (ys : List Int) (w : World) (h : BytesAt w v ys) (hm : ys.length ≤ 140737488355328) :
    Calls Tryz.prog 42 #[v] w fun e w' => e = .returned (.slice (some ⟨w.heap.size, 0, none⟩) ys.length ys.length) ∧
      w'.heap[w.heap.size]? = some (.cells (ys.map (Value.int .u8)).toArray 5 (0, 0)) ∧ Kept [] w w' := by
  obtain ⟨ao, cap, rfl, hc, hnil, hcell⟩ := h
  have hmk := run_make_row' (P := Tryz.prog) 26 5 (.int .u8 0) 1 Tryz.underlying26 Tryz.info_u8 rfl .i64 .i64 ys.length (by omega) (by omega)
  obtain ⟨cs, hcs⟩ : ∃ cs, cs = ys.map (Value.int .u8) := ⟨_, rfl⟩
  have HC : Hid (cs = ys.map (Value.int .u8)) := hcs
  clear hcs
  go_enter Tryz.func42, Tryz.ntmps42
  go_wp2_with (refine wpList_copy_splice rfl (.tmp 7) (.tmp 8) 26 26 rfl 5 Tryz.underlying26 Tryz.size_u8 _ _ _ _ _ _ rfl rfl w.heap.size 0 (List.replicate ys.length (.int .u8 0)) 5 ?cg cs ?cn ?cp ?cf ?co w.heap.size w ?cb (Nat.le_refl _) ?_)
  case cg => rw [← toList_madeCells_one]; exact heap_alloc_new w _
  case cn => rw [HC.out]; simp
  case cp =>
    intro h0
    rw [HC.out] at h0
    obtain ⟨b, off, rfl, hh⟩ := hcell (by rintro rfl; simp at h0)
    refine ⟨_, rfl, fun j u hu => ?_⟩
    rw [HC.out] at hu
    simp only [List.getElem?_map, Option.map_eq_some_iff] at hu
    obtain ⟨z, hz, rfl⟩ := hu
    rw [Addr.add_mid, World.cell?_alloc_lt]
    · exact hh j z hz
    · exact World.block_lt_of_cell? w _ (hh j z hz)
  case cf => rw [HC.out]; simp
  case co => rw [HC.out]; exact map_oneCell ys
  case cb => exact (Below.refl _ _).alloc (Nat.le_refl _) _
  intro w2 hg hb
  go_wp2
  go_ret
  refine ⟨rfl, ?_, kept_of_below hb⟩
  rw [hg.out, splice_all _ _ _ (by rw [HC.out]; simp), HC.out]

end Go.Proofs.YtfcoeinhfdbcgaaGreatDoor

namespace Go.Proofs.YtfcoeinhfdbcgaaGreatDoor
open Go.RowKit

set_option maxHeartbeats 400000 in
theorem lookFixed_yes (b off cap : Nat) (ys : List Int) (size : Nat) (w : World) (hs0 : 1 ≤ size) (hs : size ≤ 8) (hlen : size ≤ ys.length) (hm : ys.length ≤ 140737488355328) (ho : Octs ys)
    (hcell : ∀ i, i < ys.length → w.cell? ⟨b, off + i, none⟩ = some (.int .u8 (ys[i]?.getD 0))) :
    Calls Tryz.prog 91 #[.slice (some ⟨b, off, none⟩) ys.length cap, .int .i64 size] w fun e w' =>
      e = .returned (.tuple #[.agg #[.int .u64 (be (ys.take size)), .int .i64 size, .int .i64 size], .int .i64 0]) ∧ Kept [] w w' := by
  go_enter Tryz.func91, Tryz.ntmps91
  go_wp2
  go_loop [6, 14] (fun n i => ∃ k : Nat, k ≤ size ∧ i = .int .i64 k ∧ n = .int .u64 (be (ys.take k))) (fun _ i => size - (intOf i).toNat)
  case atStart => exact ⟨0, Nat.zero_le _, rfl, rfl⟩
  case round =>
    obtain ⟨k, hk, rfl, rfl⟩ := hrel
    by_cases hlt : k < size
    · have hb := be_le8 (ys.take k) (octs_take ho k) (by simp; omega)
      have hx := octs_getD ho k
      have hc : (w.alloc (.cells #[.int .u64 0, .int .i64 0, .int .i64 0] 148)).cell? ⟨b, off + k, none⟩ = some (.int .u8 (ys[k]?.getD 0)) := by
        rw [World.cell?_alloc_lt]
        · exact hcell k (by omega)
        · exact World.block_lt_of_cell? w _ (hcell k (by omega))
      have hst := be_step (be (ys.take k)) (ys[k]?.getD 0) hb.1 hb.2 hx.1 hx.2
      have hsn := be_snoc (ys.take k) (ys[k]?.getD 0)
      have hts := take_snoc ys k (by omega)
      have HF : Hid (bits .or .u64 (be (ys.take k) * 256) (ys[k]?.getD 0) = be (ys.take (k + 1))) := by rw [hst, hts, ← hsn]; rfl
      clear hst hsn hts
      go_wp2
      go_round
      case rel => exact ⟨k + 1, by omega, by go_num, by rw [HF.out]⟩
      case measure => simp [intOf]; omega
    · obtain rfl : k = size := by omega
      go_wp2
      exact bodyPost_ret (v := .tuple #[.agg #[.int .u64 (be (ys.take k)), .int .i64 k, .int .i64 k], .int .i64 0]) (by simp [results, Tryz.results91, go_sem]) rfl ⟨rfl, (Kept.refl _ _).alloc _⟩

/-- The same where the bytes are too few. -/
theorem lookFixed_no (ao : Option Addr) (n cap : Nat) (size : Nat) (w : World) (hlen : n < size) :
    Calls Tryz.prog 91 #[.slice ao n cap, .int .i64 size] w fun e w' =>
      e = .returned (.tuple #[.agg #[.int .u64 0, .int .i64 0, .int .i64 0], .int .i64 1]) ∧ Kept [] w w' := by
  go_enter Tryz.func91, Tryz.ntmps91
  go_wp2
  exact bodyPost_ret (v := .tuple #[.agg #[.int .u64 0, .int .i64 0, .int .i64 0], .int .i64 1]) (by simp [results, Tryz.results91, go_sem]) rfl ⟨rfl, (Kept.refl _ _).alloc _⟩

end Go.Proofs.YtfcoeinhfdbcgaaGreatDoor

namespace Go.Proofs.YtfcoeinhfdbcgaaGreatDoor
open Go.RowKit

theorem lookVar_empty (ao : Option Addr) (cap : Nat) (most : Int) (w : World) :
    Calls Tryz.prog 92 #[.slice ao 0 cap, .int .u64 most] w fun e w' =>
      e = .returned (.tuple #[.agg #[.int .u64 0, .int .i64 0, .int .i64 0], .int .i64 1]) ∧ Kept [] w w' := by
  go_enter Tryz.func92, Tryz.ntmps92
  go_wp2
  refine wp_loop_rounds 1 ?_
  rw [rounds_succ]
  go_wp2
  exact bodyPost_ret (v := .tuple #[.agg #[.int .u64 0, .int .i64 0, .int .i64 0], .int .i64 1]) (by simp [results, Tryz.results92, go_sem]) rfl ⟨rfl, (Kept.refl _ _).alloc _⟩

set_option maxHeartbeats 1000000 in
theorem lookVar_some (b off cap : Nat) (ys : List Int) (most : Int) (w : World) (hm : ys.length ≤ 140737488355328) (ho : Octs ys)
    (hcell : ∀ i, i < ys.length → w.cell? ⟨b, off + i, none⟩ = some (.int .u8 (ys[i]?.getD 0))) (x : Fnd) (hx : Hid (x = varL ys most)) :
    Calls Tryz.prog 92 #[.slice (some ⟨b, off, none⟩) ys.length cap, .int .u64 most] w fun e w' =>
      e = .returned (.tuple #[.agg #[.int .u64 x.n, .int .i64 x.frm, .int .i64 x.to], .int .i64 x.f]) ∧ Kept [] w w' := by
  go_enter Tryz.func92, Tryz.ntmps92
  go_wp2
  go_loop [6, 8] (fun t i => ∃ k : Nat, ∃ n : Int, k ≤ 10 ∧ i = .int .i64 k ∧ t = .int .u64 n ∧ 0 ≤ n ∧ n < 128 ^ k ∧ Hid (x = varFrom most (10 - k) k n (ys.drop k))) (fun _ i => 10 - (intOf i).toNat)
  case atStart => exact ⟨0, 0, by omega, rfl, rfl, by omega, by decide, hx⟩
  case round =>
    obtain ⟨k, n, hk, rfl, rfl, hn0, hn1, HX⟩ := hrel
    by_cases hlt : k < 10
    · by_cases hkl : k < ys.length
      · have hxb := octs_getD ho k
        have hc : (w.alloc (.cells #[.int .u64 0, .int .i64 0, .int .i64 0] 148)).cell? ⟨b, off + k, none⟩ = some (.int .u8 (ys[k]?.getD 0)) := by
          rw [World.cell?_alloc_lt]
          · exact hcell k (by omega)
          · exact World.block_lt_of_cell? w _ (hcell k (by omega))
        obtain ⟨z, hz⟩ : ∃ z, z = ys[k]?.getD 0 := ⟨_, rfl⟩
        rw [← hz] at hc hxb
        have HZ : Hid (z = ys[k]?.getD 0) := hz
        clear hz
        have HO := vf_open (most := most) (n := n) hlt hkl HZ.out
        rw [← HX.out] at HO
        have HO' : Hid _ := HO
        clear HO HX HZ
        by_cases h128 : 128 ≤ z
        · have e1 := and128_hi z h128 (by omega)
          have e2 := andNot128_hi z h128 (by omega)
          by_cases hk9 : k = 9
          · subst hk9
            have ex : x = ⟨0, 0, 0, 2⟩ := by have := HO'.out; rwa [if_pos ⟨rfl, by omega⟩] at this
            have EX : Hid (x = ⟨0, 0, 0, 2⟩) := ex
            clear ex HO'
            go_wp2
            exact bodyPost_ret (v := .tuple #[.agg #[.int .u64 0, .int .i64 0, .int .i64 0], .int .i64 2]) (by simp [results, Tryz.results92, go_sem]) rfl ⟨by rw [EX.out]; rfl, (Kept.refl _ _).alloc _⟩
          · have ex : x = varFrom most (10 - (k + 1)) (k + 1) (n + (z - 128) * 128 ^ k) (ys.drop (k + 1)) := by have := HO'.out; rwa [if_neg (by omega), if_pos h128] at this
            have EX : Hid _ := ex
            have EO : Hid _ := var_or k n (z - 128) hn0 hn1 (by omega) (by omega) (by omega)
            clear ex HO'
            go_wp2
            go_round
            case rel => exact ⟨k + 1, _, by omega, by go_num, by rw [EO.out], var_ge k n _ hn0 (by omega), var_lt k n _ hn1 (by omega), EX⟩
            case measure => simp [intOf]; omega
        · have e1 := and128_lo z hxb.1 (by omega)
          have e2 := andNot128_lo z hxb.1 (by omega)
          by_cases hk9 : 9 ≤ k
          · have hb9 : ((k : Int) == 9) = true := beq_iff_eq.2 (by omega)
            by_cases hz1 : 1 < z
            · have ex : x = ⟨0, 0, 0, 2⟩ := by have := HO'.out; rwa [if_pos ⟨by omega, hz1⟩] at this
              have EX : Hid (x = ⟨0, 0, 0, 2⟩) := ex
              clear ex HO'
              go_wp2
              exact bodyPost_ret (v := .tuple #[.agg #[.int .u64 0, .int .i64 0, .int .i64 0], .int .i64 2]) (by simp [results, Tryz.results92, go_sem]) rfl ⟨by rw [EX.out]; rfl, (Kept.refl _ _).alloc _⟩
            · by_cases hz0 : z = 0
              · subst hz0
                have ex : x = ⟨0, 0, 0, 2⟩ := by have := HO'.out; rwa [if_neg (by omega), if_neg h128, if_pos ⟨rfl, by omega⟩] at this
                have EX : Hid (x = ⟨0, 0, 0, 2⟩) := ex
                clear ex HO'
                go_wp2
                exact bodyPost_ret (v := .tuple #[.agg #[.int .u64 0, .int .i64 0, .int .i64 0], .int .i64 2]) (by simp [results, Tryz.results92, go_sem]) rfl ⟨by rw [EX.out]; rfl, (Kept.refl _ _).alloc _⟩
              · have hz2 : 1 ≤ z := by omega
                have hxk : x = if most < n + z * 128 ^ k then ⟨0, 0, 0, 3⟩ else ⟨n + z * 128 ^ k, k + 1, k + 1, 0⟩ := by have := HO'.out; rwa [if_neg (by omega), if_neg h128, if_neg (by omega)] at this
                have e3 := var_or k n z hn0 hn1 hxb.1 (by omega) (by omega)
                obtain ⟨m, hm'⟩ : ∃ m, m = n + z * 128 ^ k := ⟨_, rfl⟩
                rw [← hm'] at e3 hxk
                clear HO' hm' hn1
                by_cases hmost : most < m
                · rw [if_pos hmost] at hxk
                  have EX : Hid (x = ⟨0, 0, 0, 3⟩) := hxk
                  clear hxk
                  go_wp2
                  exact bodyPost_ret (v := .tuple #[.agg #[.int .u64 0, .int .i64 0, .int .i64 0], .int .i64 3]) (by simp [results, Tryz.results92, go_sem]) rfl ⟨by rw [EX.out]; rfl, (Kept.refl _ _).alloc _⟩
                · rw [if_neg hmost] at hxk
                  have EX : Hid (x = ⟨m, k + 1, k + 1, 0⟩) := hxk
                  clear hxk
                  go_wp2
                  exact bodyPost_ret (v := .tuple #[.agg #[.int .u64 m, .int .i64 (k + 1), .int .i64 (k + 1)], .int .i64 0]) (by simp [results, Tryz.results92, go_sem]) rfl ⟨by rw [EX.out]; rfl, (Kept.refl _ _).alloc _⟩
          · by_cases hz0 : z = 0
            · by_cases hk1 : 1 ≤ k
              · subst hz0
                have ex : x = ⟨0, 0, 0, 2⟩ := by have := HO'.out; rwa [if_neg (by omega), if_neg h128, if_pos ⟨rfl, by omega⟩] at this
                have EX : Hid (x = ⟨0, 0, 0, 2⟩) := ex
                clear ex HO'
                go_wp2
                exact bodyPost_ret (v := .tuple #[.agg #[.int .u64 0, .int .i64 0, .int .i64 0], .int .i64 2]) (by simp [results, Tryz.results92, go_sem]) rfl ⟨by rw [EX.out]; rfl, (Kept.refl _ _).alloc _⟩
              · have hbz : (z == 0) = true := beq_iff_eq.2 hz0
                have hz2 : z ≤ 0 := by omega
                have hk2 : k ≤ 0 := by omega
                clear hz0 hk1
                have hxk : x = if most < n + z * 128 ^ k then ⟨0, 0, 0, 3⟩ else ⟨n + z * 128 ^ k, k + 1, k + 1, 0⟩ := by have := HO'.out; rwa [if_neg (by omega), if_neg h128, if_neg (by omega)] at this
                have e3 := var_or k n z hn0 hn1 hxb.1 (by omega) (by omega)
                obtain ⟨m, hm'⟩ : ∃ m, m = n + z * 128 ^ k := ⟨_, rfl⟩
                rw [← hm'] at e3 hxk
                clear HO' hm' hn1
                by_cases hmost : most < m
                · rw [if_pos hmost] at hxk
                  have EX : Hid (x = ⟨0, 0, 0, 3⟩) := hxk
                  clear hxk
                  go_wp2
                  exact bodyPost_ret (v := .tuple #[.agg #[.int .u64 0, .int .i64 0, .int .i64 0], .int .i64 3]) (by simp [results, Tryz.results92, go_sem]) rfl ⟨by rw [EX.out]; rfl, (Kept.refl _ _).alloc _⟩
                · rw [if_neg hmost] at hxk
                  have EX : Hid (x = ⟨m, k + 1, k + 1, 0⟩) := hxk
                  clear hxk
                  go_wp2
                  exact bodyPost_ret (v := .tuple #[.agg #[.int .u64 m, .int .i64 (k + 1), .int .i64 (k + 1)], .int .i64 0]) (by simp [results, Tryz.results92, go_sem]) rfl ⟨by rw [EX.out]; rfl, (Kept.refl _ _).alloc _⟩
            · have hz1 : 1 ≤ z := by omega
              have hxk : x = if most < n + z * 128 ^ k then ⟨0, 0, 0, 3⟩ else ⟨n + z * 128 ^ k, k + 1, k + 1, 0⟩ := by have := HO'.out; rwa [if_neg (by omega), if_neg h128, if_neg (by omega)] at this
              have e3 := var_or k n z hn0 hn1 hxb.1 (by omega) (by omega)
              obtain ⟨m, hm'⟩ : ∃ m, m = n + z * 128 ^ k := ⟨_, rfl⟩
              rw [← hm'] at e3 hxk
              clear HO' hm' hn1
              by_cases hmost : most < m
              · rw [if_pos hmost] at hxk
                have EX : Hid (x = ⟨0, 0, 0, 3⟩) := hxk
                clear hxk
                go_wp2
                exact bodyPost_ret (v := .tuple #[.agg #[.int .u64 0, .int .i64 0, .int .i64 0], .int .i64 3]) (by simp [results, Tryz.results92, go_sem]) rfl ⟨by rw [EX.out]; rfl, (Kept.refl _ _).alloc _⟩
              · rw [if_neg hmost] at hxk
                have EX : Hid (x = ⟨m, k + 1, k + 1, 0⟩) := hxk
                clear hxk
                go_wp2
                exact bodyPost_ret (v := .tuple #[.agg #[.int .u64 m, .int .i64 (k + 1), .int .i64 (k + 1)], .int .i64 0]) (by simp [results, Tryz.results92, go_sem]) rfl ⟨by rw [EX.out]; rfl, (Kept.refl _ _).alloc _⟩
      · have ex := HX.out.trans (vf_short (most := most) (n := n) hlt (by omega))
        have EX : Hid (x = ⟨0, 0, 0, 1⟩) := ex
        clear ex HX
        go_wp2
        exact bodyPost_ret (v := .tuple #[.agg #[.int .u64 0, .int .i64 0, .int .i64 0], .int .i64 1]) (by simp [results, Tryz.results92, go_sem]) rfl ⟨by rw [EX.out]; rfl, (Kept.refl _ _).alloc _⟩
    · have ex := HX.out.trans (vf_end (most := most) (n := n) (by omega))
      have EX : Hid (x = ⟨0, 0, 0, 2⟩) := ex
      clear ex HX
      go_wp2
      exact bodyPost_ret (v := .tuple #[.agg #[.int .u64 0, .int .i64 0, .int .i64 0], .int .i64 2]) (by simp [results, Tryz.results92, go_sem]) rfl ⟨by rw [EX.out]; rfl, (Kept.refl _ _).alloc _⟩

end Go.Proofs.YtfcoeinhfdbcgaaGreatDoor
