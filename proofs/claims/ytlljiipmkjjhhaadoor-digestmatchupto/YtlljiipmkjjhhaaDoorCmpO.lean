/-
  WALK: bytes.Compare of two slices of bytes: which is first (cmpZ' is the same function as cmpZ of CmpZ, over the model's own).
  The order of bytes.Compare (cmpB): a strict order, and total.
-/
import Derived.Test.YtlljiipmkjjhhaaDoorChecked
import Derived.Test.YtlljiipmkjjhhaaDoorBase
import Derived.WalkKit
import Derived.Lib.Walk
import Derived.Lib.BytesEntry
import Derived.Lib.Bytealg
import Derived.Laws.Externs
namespace Go.Proofs.YtlljiipmkjjhhaaDoor
open Go.RowKit

theorem bytes_acc (l : List UInt8) : (⟨ByteArray.empty.data ++ l.toArray⟩ : ByteArray) = ⟨l.toArray⟩ := by
  apply ByteArray.ext
  show (#[] : Array UInt8) ++ l.toArray = l.toArray
  simp

/-- The model's own comparison at two slices whose cells are known. -/
theorem run_cmpSlice {P : Program} (w : World) (a b : Addr) (c d : Nat) (xs ys : List Int) (hx : ∀ i x, xs[i]? = some x → w.cell? (a.add i) = some (.int .u8 x)) (hy : ∀ i x, ys[i]? = some x → w.cell? (b.add i) = some (.int .u8 x)) :
    (Extern.BytealgCompare.compare #[.slice (some a) xs.length c, .slice (some b) ys.length d]).run P w = .ok (.int .i64 (Lib.compareBytes (Lib.bytesOf xs) (Lib.bytesOf ys))) w := by
  have h1 := Lib.run_loadBytesX (P := P) w xs a .empty hx
  have h2 := Lib.run_loadBytesX (P := P) w ys b .empty hy
  have hs := Lib.run_compareString (P := P) ⟨(Lib.bytesOf xs).toArray⟩ ⟨(Lib.bytesOf ys).toArray⟩ w
  rw [bytes_acc] at h1 h2
  change Sem.run P (do pure (goInt (Extern.BytealgCompare.cmp (← Extern.Bytes.bytesOf (.slice (some a) xs.length c)) (← Extern.Bytes.bytesOf (.slice (some b) ys.length d))))) w = _
  change Sem.run P (do pure (goInt (Extern.BytealgCompare.cmp (← Extern.Bytes.bytesOf (.string ⟨(Lib.bytesOf xs).toArray⟩)) (← Extern.Bytes.bytesOf (.string ⟨(Lib.bytesOf ys).toArray⟩))))) w = _ at hs
  simp only [Extern.Bytes.bytesOf, Sem.run_bind, Sem.run_pure, h1, h2, Result.andThen] at hs ⊢
  simpa using hs

theorem u8_lt {a b : Int} (ha : 0 ≤ a ∧ a ≤ 255) (hb : 0 ≤ b ∧ b ≤ 255) : (UInt8.ofNat a.toNat < UInt8.ofNat b.toNat) ↔ a < b := by
  rw [UInt8.lt_iff_toNat_lt, UInt8.toNat_ofNat_of_lt' (by show _ < 256; omega), UInt8.toNat_ofNat_of_lt' (by show _ < 256; omega)]
  omega

/-- Which of two lists of bytes is first. -/
def cmpB : List Int → List Int → Int
  | [], [] => 0
  | [], _ :: _ => -1
  | _ :: _, [] => 1
  | a :: x, b :: y => if a < b then -1 else if b < a then 1 else cmpB x y
theorem compareBytes_cmpB : ∀ xs ys : List Int, (∀ x, x ∈ xs → 0 ≤ x ∧ x ≤ 255) → (∀ x, x ∈ ys → 0 ≤ x ∧ x ≤ 255) → Lib.compareBytes (Lib.bytesOf xs) (Lib.bytesOf ys) = cmpB xs ys
  | [], [], _, _ => rfl
  | [], _ :: _, _, _ => rfl
  | _ :: _, [], _, _ => rfl
  | a :: x, b :: y, h1, h2 => by
    have ha := h1 a (by simp)
    have hb := h2 b (by simp)
    show (if UInt8.ofNat a.toNat < UInt8.ofNat b.toNat then (-1 : Int) else if UInt8.ofNat b.toNat < UInt8.ofNat a.toNat then 1 else Lib.compareBytes (Lib.bytesOf x) (Lib.bytesOf y)) = if a < b then -1 else if b < a then 1 else cmpB x y
    rw [compareBytes_cmpB x y (fun z hz => h1 z (by simp [hz])) (fun z hz => h2 z (by simp [hz]))]
    simp only [u8_lt ha hb, u8_lt hb ha]

set_option maxHeartbeats 1000000 in
set_option maxRecDepth 100000 in
/-- bytes.Compare tells which is first; the world is as it was. -/
theorem Compare_any (a b : Addr) (c d : Nat) (xs ys : List Int) (w : World) (hx : ∀ i x, xs[i]? = some x → w.cell? (a.add i) = some (.int .u8 x)) (hy : ∀ i x, ys[i]? = some x → w.cell? (b.add i) = some (.int .u8 x))
    (ho : ∀ x, x ∈ xs → 0 ≤ x ∧ x ≤ 255) (ho2 : ∀ x, x ∈ ys → 0 ≤ x ∧ x ≤ 255) :
    Calls Tryd.prog 22 #[.slice (some a) xs.length c, .slice (some b) ys.length d] w fun e w' => e = .returned (.int .i64 (cmpB xs ys)) ∧ w' = w := by
  go_enter Tryd.func22, Tryd.ntmps22
  go_wp2
  rw [run_callFunc_extern Tryd.func35 (by kernel_rfl) (by kernel_rfl) (by kernel_rfl) (e := Extern.BytealgCompare.compare) (by kernel_rfl), run_cmpSlice w a b c d xs ys hx hy, compareBytes_cmpB xs ys ho ho2]
  simp only [Result.andThen]
  rw [Oper.upon_value]
  go_wp2
  go_ret
  exact ⟨rfl, rfl⟩
end Go.Proofs.YtlljiipmkjjhhaaDoor

namespace Go.Proofs.YtlljiipmkjjhhaaDoor
open Go.RowKit

/-- Which id is first: a strict order, and total. -/
theorem cmpB_swap : ∀ xs ys : List Int, cmpB xs ys < 0 → ¬ cmpB ys xs < 0
  | [], [], h => by simp [cmpB] at h
  | [], _ :: _, _ => by simp [cmpB]
  | _ :: _, [], h => by simp [cmpB] at h
  | a :: x, b :: y, h => by
    simp only [cmpB] at h ⊢
    by_cases h1 : a < b
    · rw [if_neg (by omega), if_pos h1]; omega
    · rw [if_neg h1] at h
      by_cases h2 : b < a
      · rw [if_pos h2] at h; omega
      · rw [if_neg h2] at h
        rw [if_neg h2, if_neg h1]
        exact cmpB_swap x y h
theorem cmpB_total : ∀ xs ys : List Int, ¬ cmpB xs ys < 0 → ¬ cmpB ys xs < 0 → xs = ys
  | [], [], _, _ => rfl
  | [], _ :: _, h, _ => by simp [cmpB] at h
  | _ :: _, [], _, h => by simp [cmpB] at h
  | a :: x, b :: y, h, h' => by
    simp only [cmpB] at h h'
    by_cases h1 : a < b
    · rw [if_pos h1] at h; omega
    · by_cases h2 : b < a
      · rw [if_pos h2] at h'; omega
      · rw [if_neg h1, if_neg h2] at h
        rw [if_neg h2, if_neg h1] at h'
        obtain rfl : a = b := by omega
        rw [cmpB_total x y h h']
theorem cmpB_trans : ∀ xs ys zs : List Int, cmpB xs ys < 0 → cmpB ys zs < 0 → cmpB xs zs < 0
  | [], [], _, h, _ => by simp [cmpB] at h
  | _ :: _, [], _, h, _ => by simp [cmpB] at h
  | _, _ :: _, [], _, h => by simp [cmpB] at h
  | [], _ :: _, _ :: _, _, _ => by simp [cmpB]
  | a :: x, b :: y, c :: z, h, h' => by
    simp only [cmpB] at h h' ⊢
    by_cases h1 : a < b
    · by_cases h2 : c < b
      · rw [if_neg (by omega), if_pos h2] at h'; omega
      · rw [if_pos (by omega)]; omega
    · rw [if_neg h1] at h
      by_cases h2 : b < a
      · rw [if_pos h2] at h; omega
      · rw [if_neg h2] at h
        obtain rfl : a = b := by omega
        by_cases h3 : a < c
        · rw [if_pos h3]; omega
        · rw [if_neg h3] at h' ⊢
          by_cases h4 : c < a
          · rw [if_pos h4] at h'; omega
          · rw [if_neg h4] at h' ⊢
            exact cmpB_trans x y z h h'
theorem cmpB_self (xs : List Int) : ¬ cmpB xs xs < 0 := fun h => cmpB_swap xs xs h h
/-- What is not less: either greater or the same. -/
theorem cmpB_ge {xs ys : List Int} (h : ¬ cmpB xs ys < 0) : cmpB ys xs < 0 ∨ xs = ys := by
  by_cases h' : cmpB ys xs < 0
  · exact .inl h'
  · exact .inr (cmpB_total xs ys h h')
end Go.Proofs.YtlljiipmkjjhhaaDoor
