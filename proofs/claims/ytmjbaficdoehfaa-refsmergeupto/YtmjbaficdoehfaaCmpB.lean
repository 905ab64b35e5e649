/-
  WALK: bytes.Compare of two slices of bytes: which is first (cmpZ' is the same function as cmpZ of CmpZ, over the model's own).
-/
import Derived.Test.YtmjbaficdoehfaaChecked
import Derived.Test.YtmjbaficdoehfaaBase
import Derived.WalkKit
import Derived.Lib.Walk
import Derived.Lib.BytesEntry
import Derived.Lib.Bytealg
import Derived.Laws.Externs
namespace Go.Proofs.Ytmjbaficdoehfaa
open Go.RowKit

theorem bytes_acc (l : List UInt8) : (⟨ByteArray.empty.data ++ l.toArray⟩ : ByteArray) = ⟨l.toArray⟩ := by
  apply ByteArray.ext
  show (#[] : Array UInt8) ++ l.toArray = l.toArray
  simp

/-- The model's own comparison at two slices whose cells are known. -/
theorem run_cmpSlice {P : Program} (w : World) (a b : Addr) (c d : Nat) (xs ys : List Int) (hx : ∀ i x, xs[i]? = some x → w.cell? (a.add i) = some (.int .u8 x)) (hy : ∀ i x, ys[i]? = some x → w.cell? (b.add i) = some (.int .u8 x)) :
    (Extern.BytealgCompare.compare #[.slice (some a) xs.length c, .slice (some b) ys.length d]).run P w = .ok (.int .i64 (Lib.compareBytes (Lib.bytesOf xs) (Lib.bytesOf ys))) w := by
  have h1 := Lib.run_loadBytesX (P := P) w xs a .empty hx
  have h2 := Lib.run_loadBytesX (P := P) w ys b .empty hy
  have hs := Lib.run_compareString (P := P) ⟨(Lib.bytesOf xs).toArray⟩ ⟨(Lib.bytesOf ys).toArray⟩ w
  rw [bytes_acc] at h1 h2
  change Sem.run P (do pure (goInt (Extern.BytealgCompare.cmp (← Extern.Bytes.bytesOf (.slice (some a) xs.length c)) (← Extern.Bytes.bytesOf (.slice (some b) ys.length d))))) w = _
  change Sem.run P (do pure (goInt (Extern.BytealgCompare.cmp (← Extern.Bytes.bytesOf (.string ⟨(Lib.bytesOf xs).toArray⟩)) (← Extern.Bytes.bytesOf (.string ⟨(Lib.bytesOf ys).toArray⟩))))) w = _ at hs
  simp only [Extern.Bytes.bytesOf, Sem.run_bind, Sem.run_pure, h1, h2, Result.andThen] at hs ⊢
  simpa using hs

theorem u8_lt {a b : Int} (ha : 0 ≤ a ∧ a ≤ 255) (hb : 0 ≤ b ∧ b ≤ 255) : (UInt8.ofNat a.toNat < UInt8.ofNat b.toNat) ↔ a < b := by
  rw [UInt8.lt_iff_toNat_lt, UInt8.toNat_ofNat_of_lt' (by show _ < 256; omega), UInt8.toNat_ofNat_of_lt' (by show _ < 256; omega)]
  omega

/-- Which of two lists of bytes is first. -/
def cmpB : List Int → List Int → Int
  | [], [] => 0
  | [], _ :: _ => -1
  | _ :: _, [] => 1
  | a :: x, b :: y => if a < b then -1 else if b < a then 1 else cmpB x y
theorem compareBytes_cmpB : ∀ xs ys : List Int, (∀ x, x ∈ xs → 0 ≤ x ∧ x ≤ 255) → (∀ x, x ∈ ys → 0 ≤ x ∧ x ≤ 255) → Lib.compareBytes (Lib.bytesOf xs) (Lib.bytesOf ys) = cmpB xs ys
  | [], [], _, _ => rfl
  | [], _ :: _, _, _ => rfl
  | _ :: _, [], _, _ => rfl
  | a :: x, b :: y, h1, h2 => by
    have ha := h1 a (by simp)
    have hb := h2 b (by simp)
    show (if UInt8.ofNat a.toNat < UInt8.ofNat b.toNat then (-1 : Int) else if UInt8.ofNat b.toNat < UInt8.ofNat a.toNat then 1 else Lib.compareBytes (Lib.bytesOf x) (Lib.bytesOf y)) = if a < b then -1 else if b < a then 1 else cmpB x y
    rw [compareBytes_cmpB x y (fun z hz => h1 z (by simp [hz])) (fun z hz => h2 z (by simp [hz]))]
    simp only [u8_lt ha hb, u8_lt hb ha]

set_option maxHeartbeats 1000000 in
set_option maxRecDepth 100000 in
/-- bytes.Compare tells which is first; the world is as it was. -/
theorem Compare_any (a b : Addr) (c d : Nat) (xs ys : List Int) (w : World) (hx : ∀ i x, xs[i]? = some x → w.cell? (a.add i) = some (.int .u8 x)) (hy : ∀ i x, ys[i]? = some x → w.cell? (b.add i) = some (.int .u8 x))
    (ho : ∀ x, x ∈ xs → 0 ≤ x ∧ x ≤ 255) (ho2 : ∀ x, x ∈ ys → 0 ≤ x ∧ x ≤ 255) :
    Calls Try.prog 23 #[.slice (some a) xs.length c, .slice (some b) ys.length d] w fun e w' => e = .returned (.int .i64 (cmpB xs ys)) ∧ w' = w := by
  go_enter Try.func23, Try.ntmps23
  go_wp2
  rw [run_callFunc_extern Try.func36 (by kernel_rfl) (by kernel_rfl) (by kernel_rfl) (e := Extern.BytealgCompare.compare) (by kernel_rfl), run_cmpSlice w a b c d xs ys hx hy, compareBytes_cmpB xs ys ho ho2]
  simp only [Result.andThen]
  rw [Oper.upon_value]
  go_wp2
  go_ret
  exact ⟨rfl, rfl⟩
end Go.Proofs.Ytmjbaficdoehfaa
