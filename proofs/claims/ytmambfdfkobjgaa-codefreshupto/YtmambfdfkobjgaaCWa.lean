/-
  satchellaw1.writes for every step.
-/
import Derived.Test.YtmambfdfkobjgaaWrites
import Derived.Test.YtmambfdfkobjgaaWrites2
import Derived.Test.YtmambfdfkobjgaaWrites3
namespace Go.Proofs.Ytmambfdfkobjgaa
open Go.RowKit

theorem BytesAt.blk_lt {w : World} {v : Value} {ys : List Int} (h : BytesAt w v ys) (hn : ys ≠ []) : ∀ b, blkOf v = some b → b < w.heap.size := by
  obtain ⟨ao, cap, rfl, _, _, hcell⟩ := h
  intro b hb
  obtain ⟨b', off, rfl, hh⟩ := hcell hn
  have e : b' = b := by simpa [blkOf] using hb
  subst e
  have hl : 0 < ys.length := List.length_pos_iff.2 hn
  exact World.block_lt_of_cell? w _ (hh 0 ys[0] (List.getElem?_eq_getElem hl))

abbrev COp.cells (o : COp) : Array Value := #[.int .i64 o.kind, .int .i64 o.which, .int .i64 o.m, .int .u64 o.n, .slice o.ao o.b.length o.cap]

theorem writes_any {w : World} {wb B : Nat} {v : Value} {zs : List Int} {S : List Nat} (D : Duo w wb B v zs S) (hBw : B ≤ w.heap.size) (o : COp) (on0 : 0 ≤ o.n) (on1 : o.n ≤ 18446744073709551615) (hb : BytesAt w (.slice o.ao o.b.length o.cap) o.b) (hob : Octs o.b)
    (hdb : o.b ≠ [] → ∀ b, blkOf (.slice o.ao o.b.length o.cap) = some b → b ∉ foot v S) (hm : zs.length + o.b.length + 20 ≤ 140737488351232) :
    Calls Try.prog 8 #[.pointer (some ⟨wb, 0, none⟩), v, .agg #[.int .i64 o.kind, .int .i64 o.which, .int .i64 o.m, .int .u64 o.n, .slice o.ao o.b.length o.cap]] w fun e w' => WritesTo w w' wb B v zs S o.b.length e := by
  by_cases h1 : o.kind = 1
  · rw [h1]; exact writes_u8 D hBw _ _ _ _ _ _ hb hdb hm
  by_cases h2 : o.kind = 2
  · rw [h2]; exact writes_u32 D hBw _ _ _ _ _ _ hb hdb hm
  by_cases h3 : o.kind = 3
  · rw [h3]; exact writes_u64 D hBw _ _ _ on0 on1 _ _ _ hb hdb hm
  by_cases h4 : o.kind = 4
  · rw [h4]; exact writes_var D hBw _ _ _ on0 on1 _ _ _ hb hdb hm
  by_cases h5 : o.kind = 5
  · rw [h5]; exact writes_bytes D hBw _ _ _ _ _ _ hb hob hdb hm
  by_cases h6 : o.kind = 6
  · rw [h6]; exact writes_raw D hBw _ _ _ _ _ _ hb hob hdb hm
  by_cases h7 : o.kind = 7
  · rw [h7]; exact writes_len D hBw _ _ _ _ _ _ hb hdb hm
  by_cases h8 : o.kind = 8
  · rw [h8]; exact writes_out D hBw _ _ _ _ _ _ hb hdb hm
  exact writes_other D hBw _ _ _ _ _ _ _ h1 h2 h3 h4 h5 h6 h7 h8 hb hdb hm

end Go.Proofs.Ytmambfdfkobjgaa
