/-
  WALK: object.readTree.
-/
import Derived.Test.YtddhhjgegkkjbaaGreatDoorEnt2
import Derived.Test.YtddhhjgegkkjbaaGreatDoorRw0
namespace Go.Proofs.YtddhhjgegkkjbaaGreatDoor
open Go.RowKit

def zeroE : EntL := ⟨0, [], zero32⟩
theorem Tryz.zeroEnt : (Tryz.prog.info? 127).map (fun i => (i.zero, i.size, i.bytes)) = some (some (.agg zeroE.row.toArray), 34, 56) := by kernel_rfl
theorem take_var_le (xs : List Int) (ho : Octs xs) (pl f : Nat) (most : Int) (h0 : 0 ≤ most) : 0 ≤ (takeL xs pl f 1 0 most).n ∧ (takeL xs pl f 1 0 most).n ≤ most := by
  unfold takeL
  split
  · exact ⟨Int.le_refl _, h0⟩
  · split
    · exact ⟨Int.le_refl _, h0⟩
    · rename_i h1 h2
      have e : lookL (xs.drop pl) 1 0 most = varL (xs.drop pl) most := by unfold lookL; rw [if_neg (by decide), if_pos rfl]
      rw [e] at h2 ⊢
      have hg := varL_good (xs.drop pl) most (octs_drop ho pl)
      exact ⟨hg.n0, hg.le (by simpa using h2)⟩

/-- One entry read: it, the place and the fault behind it. -/
def rdE (xs : List Int) (pl f : Nat) : EntL × Nat × Nat :=
  (⟨(takeL xs pl f 0 1 0).n, (takeL xs (takeL xs pl f 0 1 0).pl (takeL xs pl f 0 1 0).f 2 0 255).text,
    idOf (takeL xs (takeL xs (takeL xs pl f 0 1 0).pl (takeL xs pl f 0 1 0).f 2 0 255).pl (takeL xs (takeL xs pl f 0 1 0).pl (takeL xs pl f 0 1 0).f 2 0 255).f 3 32 0).text⟩,
   (takeL xs (takeL xs (takeL xs pl f 0 1 0).pl (takeL xs pl f 0 1 0).f 2 0 255).pl (takeL xs (takeL xs pl f 0 1 0).pl (takeL xs pl f 0 1 0).f 2 0 255).f 3 32 0).pl,
   (takeL xs (takeL xs (takeL xs pl f 0 1 0).pl (takeL xs pl f 0 1 0).f 2 0 255).pl (takeL xs (takeL xs pl f 0 1 0).pl (takeL xs pl f 0 1 0).f 2 0 255).f 3 32 0).f)
/-- So many entries read. -/
def rdEs (xs : List Int) (pl f : Nat) : Nat → List EntL × Nat × Nat
  | 0 => ([], pl, f)
  | k + 1 => ((rdEs xs pl f k).1 ++ [(rdE xs (rdEs xs pl f k).2.1 (rdEs xs pl f k).2.2).1], (rdE xs (rdEs xs pl f k).2.1 (rdEs xs pl f k).2.2).2)
theorem rdEs_len (xs : List Int) (pl f : Nat) : ∀ k, (rdEs xs pl f k).1.length = k
  | 0 => rfl
  | k + 1 => by unfold rdEs; rw [List.length_append, rdEs_len xs pl f k]; rfl
theorem idOf_len {t : List Int} (h : t.length ≤ 32) : (idOf t).length = 32 := by
  unfold idOf
  rw [List.length_append, List.length_drop]
  show t.length + (32 - t.length) = 32
  omega
theorem rdEs_ids (xs : List Int) (pl f : Nat) : ∀ k e, e ∈ (rdEs xs pl f k).1 → e.id.length = 32
  | 0, e, h => by simp [rdEs] at h
  | k + 1, e, h => by
    unfold rdEs at h
    rcases List.mem_append.1 h with h | h
    · exact rdEs_ids xs pl f k e h
    · rw [List.mem_singleton.1 h]
      exact idOf_len (raw32_len _ _ _)

/-- What lies in the list on the way: the entries that are read, and zeros. -/
def half (l : List EntL) (n : Nat) : List (List Value) := (l ++ List.replicate (n - l.length) zeroE).map EntL.row
theorem half_row (l : List EntL) (n : Nat) (hl : ∀ e, e ∈ l → e.id.length = 32) : ∀ r, r ∈ half l n → r.length = 34 := fun r hr => by
  unfold half at hr
  obtain ⟨e, he, rfl⟩ := List.mem_map.1 hr
  have : e.id.length = 32 := by
    rcases List.mem_append.1 he with h | h
    · exact hl e h
    · rw [(List.mem_replicate.1 h).2]; rfl
  simp [EntL.row, this]
theorem half_at (l : List EntL) (n : Nat) (h : l.length < n) : (half l n)[l.length]? = some zeroE.row := by
  unfold half
  rw [List.getElem?_map, List.getElem?_append_right (Nat.le_refl _), Nat.sub_self, List.getElem?_replicate, if_pos (by omega)]
  rfl
theorem half_put (l : List EntL) (n : Nat) (h : l.length < n) (e : EntL) : (half l n).set l.length e.row = half (l ++ [e]) n := by
  unfold half
  rw [List.length_append, List.length_singleton]
  obtain ⟨m, hm⟩ : ∃ m, n - l.length = m + 1 := ⟨n - l.length - 1, by omega⟩
  rw [show n - (l.length + 1) = m by omega, hm, List.replicate_succ, ← List.map_set, List.set_append_right _ _ (Nat.le_refl _), Nat.sub_self, List.set_cons_zero]
  simp
theorem ent_puts (m : Int) (s : List Int) (i : List Int) (hi : i.length = 32) : putL (putL (putL zeroE.row 0 [.int .i64 m]) 1 [.string (strOfNums s)]) 2 (i.map (Value.int .u8)) = (EntL.mk m s i).row := by
  unfold putL EntL.row zeroE
  simp [zero32, hi]

set_option maxRecDepth 100000 in
set_option maxHeartbeats 2000000 in
theorem readTree_any {w : World} {r g : Nat} {xs : List Int} {pl f : Nat} (R : Rdr w r g xs pl f) (y : Took) (hy : Hid (y = takeL xs pl f 1 0 1024)) :
    Calls Tryz.prog 51 #[.pointer (some ⟨r, 0, none⟩)] w fun e w' => ∃ b, e = .returned (.slice (some ⟨b, 0, none⟩) y.n.toNat y.n.toNat) ∧ RowsIn w' b 127 ((rdEs xs y.pl y.f y.n.toNat).1.map EntL.row) ∧ w.heap.size ≤ b ∧
      Rdr w' r g xs (rdEs xs y.pl y.f y.n.toNat).2.1 (rdEs xs y.pl y.f y.n.toNat).2.2 ∧ Kept [r] w w' := by
  have hcall := Var_any R 1024 (by decide) y hy
  have hn : 0 ≤ y.n ∧ y.n ≤ 1024 := by rw [hy.out]; exact take_var_le xs R.oct pl f 1024 (by decide)
  obtain ⟨n, hyn⟩ : ∃ n : Nat, y.n = (n : Int) := ⟨y.n.toNat, by omega⟩
  rw [hyn] at hcall hn ⊢
  rw [Int.toNat_natCast]
  obtain ⟨i0, hi, hez⟩ := Option.map_eq_some_iff.1 Tryz.zeroEnt
  simp only [Prod.mk.injEq] at hez
  obtain ⟨hz0, hz1, hz2⟩ := hez
  have hmk : ∀ W : World, (Instr.makeSlice 100 (.int .u64 (n : Int)) (.int .u64 (n : Int))).run Tryz.prog W = .ok (.slice (some ⟨W.heap.size, 0, none⟩) n n) (W.alloc (.cells (half [] n).flatten.toArray 127)) := fun W => by
    have h := run_make (P := Tryz.prog) W 100 127 i0 (.agg zeroE.row.toArray) Tryz.underlying100 hi hz0 .u64 .u64 (n : Int) (n : Int) (by omega) (Int.le_refl _) (by rw [hz2]; omega) (by omega)
    rw [Int.toNat_natCast, hz1] at h
    have e : madeCells (Value.agg zeroE.row.toArray).cells (n * 34) = (half [] n).flatten.toArray := by
      show madeCells zeroE.row.toArray (n * 34) = _
      rw [made_rows zeroE.row 34 n (by decide) rfl]
      unfold half
      simp
    rw [e] at h
    exact h
  clear R hy hyn hi hz0 hz1 hz2
  go_enter Tryz.func51, Tryz.ntmps51
  go_wp2_with (go_at_call 64; refine hcall.mono ?_; rintro e w1 ⟨rfl, hr1, hk1⟩; have HR1 : Hid _ := hr1; have HK1 : Hid _ := hk1; clear hr1 hk1)
  have hwb := HK1.out.size
  have HRA : Hid (Rdr (w1.alloc (.cells (half [] n).flatten.toArray 127)) r g xs y.pl y.f) := HR1.out.alloc _
  have HKA : Hid (Kept [r] w (w1.alloc (.cells (half [] n).flatten.toArray 127))) := HK1.out.alloc _
  have HIA : Hid (RowsIn (w1.alloc (.cells (half [] n).flatten.toArray 127)) w1.heap.size 127 (half [] n)) := heap_alloc_new w1 _
  have hrb : r < w1.heap.size := lt_of_block HR1.out.blk
  have hgb : g < w1.heap.size := lt_of_block HR1.out.row
  generalize w1.heap.size = b at *
  go_loopw [4, 10] (fun _ s10 wr => ∃ k : Nat, k ≤ n ∧ s10 = .int .i64 k ∧ Hid (RowsIn wr b 127 (half (rdEs xs y.pl y.f k).1 n)) ∧ Hid (Rdr wr r g xs (rdEs xs y.pl y.f k).2.1 (rdEs xs y.pl y.f k).2.2) ∧ Hid (Kept [r] w wr)) (fun _ s10 _ => n - (intOf s10).toNat)
  case atStart => exact ⟨0, Nat.zero_le _, rfl, HIA, HRA, HKA⟩
  case round =>
    clear HRA HKA HIA HR1 HK1 hcall hmk
    obtain ⟨k, hk, rfl, HI, HR, HK⟩ := hrel
    by_cases hlt : k < n
    · have hlk := rdEs_len xs y.pl y.f k
      have hidk := rdEs_ids xs y.pl y.f k
      have HE : Hid (rdEs xs y.pl y.f (k + 1) = ((rdEs xs y.pl y.f k).1 ++ [(rdE xs (rdEs xs y.pl y.f k).2.1 (rdEs xs y.pl y.f k).2.2).1], (rdE xs (rdEs xs y.pl y.f k).2.1 (rdEs xs y.pl y.f k).2.2).2)) := rfl
      generalize rdEs xs y.pl y.f k = st at *
      obtain ⟨l, p, q⟩ := st
      dsimp only at HI HR hlk hidk HE
      obtain ⟨y1, hy1⟩ : ∃ t, t = takeL xs p q 0 1 0 := ⟨_, rfl⟩
      obtain ⟨y2, hy2⟩ : ∃ t, t = takeL xs y1.pl y1.f 2 0 255 := ⟨_, rfl⟩
      obtain ⟨y3, hy3⟩ : ∃ t, t = takeL xs y2.pl y2.f 3 32 0 := ⟨_, rfl⟩
      have HRE : Hid (rdE xs p q = (⟨y1.n, y2.text, idOf y3.text⟩, y3.pl, y3.f)) := by
        unfold rdE
        rw [← hy1, ← hy2, ← hy3]
        exact rfl
      have hl3 : (idOf y3.text).length = 32 := by rw [hy3]; exact idOf_len (raw32_len _ _ _)
      have hb1 : 0 ≤ y1.n ∧ y1.n < 256 := by rw [hy1]; exact take_lt xs HR.out.oct p q 1
      have HC1 : Hid (∀ W, Rdr W r g xs p q → Calls Tryz.prog 48 #[.pointer (some ⟨r, 0, none⟩)] W fun e w' => e = .returned (.int .u8 y1.n) ∧ Rdr w' r g xs y1.pl y1.f ∧ Kept [r] W w') := fun W hW => U8_any hW y1 hy1
      have HC2 : Hid (∀ W, Rdr W r g xs y1.pl y1.f → Calls Tryz.prog 65 #[.pointer (some ⟨r, 0, none⟩), .int .i64 255] W fun e w' => e = .returned (.string (strOfNums y2.text)) ∧ Rdr w' r g xs y2.pl y2.f ∧ Kept [r] W w') := fun W hW => readText_any hW 255 (by decide) (by decide) y2 hy2
      have HC3 : Hid (∀ W, Rdr W r g xs y2.pl y2.f → Calls Tryz.prog 66 #[.pointer (some ⟨r, 0, none⟩)] W fun e w' => e = .returned (.agg (idC (idOf y3.text))) ∧ Rdr w' r g xs y3.pl y3.f ∧ Kept [r] W w') := fun W hW => readID_any hW y3 hy3
      have hrow : ∀ x, x ∈ half l n → x.length = 34 := half_row l n hidk
      have hat : (half l n)[k]? = some zeroE.row := by have h := half_at l n (by omega); rw [hlk] at h; exact h
      have HPUT : Hid ((half l n).set k (EntL.mk y1.n y2.text (idOf y3.text)).row = half (l ++ [⟨y1.n, y2.text, idOf y3.text⟩]) n) := by
        have h := half_put l n (by omega) ⟨y1.n, y2.text, idOf y3.text⟩
        rw [hlk] at h
        exact h
      have HPS : Hid (putL (putL (putL zeroE.row 0 [.int .i64 y1.n]) 1 [.string (strOfNums y2.text)]) 2 ((idOf y3.text).map (Value.int .u8)) = (EntL.mk y1.n y2.text (idOf y3.text)).row) := ent_puts _ _ _ hl3
      clear hy1 hy2 hy3
      have hkl : k < (half l n).length := (List.getElem?_eq_some_iff.1 hat).1
      have l0 : zeroE.row.length = 34 := rfl
      have hsi : (Tryz.prog.info? 36).map (·.size) = some (idC (idOf y3.text)).size := by rw [idC_size hl3]; exact Tryz.infoID
      have hai : (idC (idOf y3.text)).all (·.oneCell') = true := all_oneCell_toArray (map_oneCell _)
      have HT3 : Hid ((idC (idOf y3.text)).toList = (idOf y3.text).map (Value.int .u8)) := rfl
      have h32 : (idC (idOf y3.text)).size = 32 := idC_size hl3
      have hp1 : (putL zeroE.row 0 [.int .i64 y1.n]).length = 34 := by rw [putL_len (by rw [l0]; simp)]; exact l0
      have hrow2 : ∀ x, x ∈ (half l n).set k (putL zeroE.row 0 [.int .i64 y1.n]) → x.length = 34 := fun x hx => by
        rcases List.mem_or_eq_of_mem_set hx with h | rfl
        · exact hrow x h
        · exact hp1
      have hat2 : ((half l n).set k (putL zeroE.row 0 [.int .i64 y1.n]))[k]? = some (putL zeroE.row 0 [.int .i64 y1.n]) := List.getElem?_set_self hkl
      have hp2 : (putL (putL zeroE.row 0 [.int .i64 y1.n]) 1 [.string (strOfNums y2.text)]).length = 34 := by rw [putL_len (by rw [hp1]; simp)]; exact hp1
      have hrow3 : ∀ x, x ∈ ((half l n).set k (putL zeroE.row 0 [.int .i64 y1.n])).set k (putL (putL zeroE.row 0 [.int .i64 y1.n]) 1 [.string (strOfNums y2.text)]) → x.length = 34 := fun x hx => by
        rcases List.mem_or_eq_of_mem_set hx with h | rfl
        · exact hrow2 x h
        · exact hp2
      have hat3 : (((half l n).set k (putL zeroE.row 0 [.int .i64 y1.n])).set k (putL (putL zeroE.row 0 [.int .i64 y1.n]) 1 [.string (strOfNums y2.text)]))[k]? = some (putL (putL zeroE.row 0 [.int .i64 y1.n]) 1 [.string (strOfNums y2.text)]) := List.getElem?_set_self (by rw [List.length_set]; exact hkl)
      have hrow2 : Hid _ := hrow2
      have hrow3 : Hid _ := hrow3
      clear l0 hp1 hp2
      go_wp2_with (first
        | (go_at_call 48; refine (HC1.out _ HR.out).mono ?_; rintro e w2 ⟨rfl, hr2, hk2⟩
           have hI2 : RowsIn w2 b 127 (half l n) := HI.out.kept hk2 (by simp; omega)
           have d2 : w2.cell? ⟨b, k * 34, none⟩ = some (.int .i64 0) := hI2.range 34 (by decide) hrow k _ hat 0 _ rfl
           have f2 : w2.frozen? ⟨b, k * 34, none⟩ = false := hI2.frozen _
           have HI2 : Hid (RowsIn (w2.setCell ⟨b, k * 34, none⟩ (.int .i64 y1.n)) b 127 ((half l n).set k (putL zeroE.row 0 [.int .i64 y1.n]))) := hI2.put1 34 (by decide) hrow k _ hat 0 _ (by decide)
           have kk2 : Kept [b] w2 (w2.setCell ⟨b, k * 34, none⟩ (.int .i64 y1.n)) := (Kept.refl _ _).setCell (Or.inl (by simp)) _
           have HR2 : Hid (Rdr (w2.setCell ⟨b, k * 34, none⟩ (.int .i64 y1.n)) r g xs y1.pl y1.f) := hr2.kept kk2 (by simp; omega) (by simp; omega)
           have HK2 : Hid (Kept [r] w (w2.setCell ⟨b, k * 34, none⟩ (.int .i64 y1.n))) := (HK.out.then hk2).setCell (Or.inr hwb) _
           clear hr2 hk2 kk2 hI2)
        | (go_at_call 65; refine (HC2.out _ HR2.out).mono ?_; rintro e w3 ⟨rfl, hr3, hk3⟩
           have hI3 : RowsIn w3 b 127 ((half l n).set k (putL zeroE.row 0 [.int .i64 y1.n])) := HI2.out.kept hk3 (by simp; omega)
           have d3 : w3.cell? ⟨b, k * 34 + 1, none⟩ = some (.string (strOfNums [])) := hI3.range 34 (by decide) hrow2 k _ hat2 1 _ rfl
           have f3 : w3.frozen? ⟨b, k * 34 + 1, none⟩ = false := hI3.frozen _
           have HI3 : Hid (RowsIn (w3.setCell ⟨b, k * 34 + 1, none⟩ (.string (strOfNums y2.text))) b 127 (((half l n).set k (putL zeroE.row 0 [.int .i64 y1.n])).set k (putL (putL zeroE.row 0 [.int .i64 y1.n]) 1 [.string (strOfNums y2.text)]))) := hI3.put1 34 (by decide) hrow2 k _ hat2 1 _ (by decide)
           have kk3 : Kept [b] w3 (w3.setCell ⟨b, k * 34 + 1, none⟩ (.string (strOfNums y2.text))) := (Kept.refl _ _).setCell (Or.inl (by simp)) _
           have HR3 : Hid (Rdr (w3.setCell ⟨b, k * 34 + 1, none⟩ (.string (strOfNums y2.text))) r g xs y2.pl y2.f) := hr3.kept kk3 (by simp; omega) (by simp; omega)
           have HK3 : Hid (Kept [r] w (w3.setCell ⟨b, k * 34 + 1, none⟩ (.string (strOfNums y2.text)))) := (HK2.out.then hk3).setCell (Or.inr hwb) _
           clear hr3 hk3 kk3 hI3)
        | (go_at_call 66; refine (HC3.out _ HR3.out).mono ?_; rintro e w4 ⟨rfl, hr4, hk4⟩
           have HI4 : Hid (RowsIn w4 b 127 (((half l n).set k (putL zeroE.row 0 [.int .i64 y1.n])).set k (putL (putL zeroE.row 0 [.int .i64 y1.n]) 1 [.string (strOfNums y2.text)]))) := HI3.out.kept hk4 (by simp; omega)
           have HR4 : Hid (Rdr w4 r g xs y3.pl y3.f) := hr4
           have HK4 : Hid (Kept [r] w w4) := HK3.out.then hk4
           have HTH : Hid (w4.there b (k * 34 + 2) 32) := HI4.out.there 34 (by decide) hrow3 k _ hat3 2 32 (by decide)
           clear hr4 hk4)
        | (refine wpList_store_mid (by rfl) 36 (.tmp 31) (.tmp 29) (by rfl) b (k * 34 + 2) (idC (idOf y3.text)) (by rfl) (by rfl) (by rw [h32]; exact HTH.out) hsi hai ?_; rw [HT3.out]
           have HI5 : Hid (RowsIn (w4.setCells b (k * 34 + 2) ((idOf y3.text).map (Value.int .u8))) b 127 (half (l ++ [⟨y1.n, y2.text, idOf y3.text⟩]) n)) := by
             have h := HI4.out.put 34 (by decide) hrow3 k _ hat3 2 ((idOf y3.text).map (Value.int .u8)) (by rw [List.length_map, hl3]; exact Nat.le_refl _)
             rw [HPS.out, List.set_set, List.set_set, HPUT.out] at h
             exact h
           have HR5 : Hid (Rdr (w4.setCells b (k * 34 + 2) ((idOf y3.text).map (Value.int .u8))) r g xs y3.pl y3.f) := HR4.out.kept (Kept.setCells b (Or.inl (by simp)) _ _ _ (Kept.refl [b] w4)) (by simp; omega) (by simp; omega)
           have HK5 : Hid (Kept [r] w (w4.setCells b (k * 34 + 2) ((idOf y3.text).map (Value.int .u8)))) := Kept.setCells b (Or.inr hwb) _ _ _ HK4.out))
      go_roundw
      case rel => exact ⟨k + 1, by omega, by go_num, by rw [HE.out, HRE.out]; exact HI5, by rw [HE.out, HRE.out]; exact HR5, HK5⟩
      case measure => simp [intOf]; omega
    · obtain rfl : k = n := by omega
      have HF : Hid (RowsIn wr b 127 ((rdEs xs y.pl y.f k).1.map EntL.row)) := by
        have h := HI.out
        unfold half at h
        rw [rdEs_len, Nat.sub_self, List.replicate_zero, List.append_nil] at h
        exact h
      go_wp2
      go_ret
      exact ⟨b, rfl, HF.out, hwb, HR.out, HK.out⟩
end Go.Proofs.YtddhhjgegkkjbaaGreatDoor
