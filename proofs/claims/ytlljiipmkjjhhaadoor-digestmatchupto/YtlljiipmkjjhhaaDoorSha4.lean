/-
  PLAIN: bytes fed to a digest one by one; the laws of a piece. A copy into the middle of a Hash.
-/
import Derived.Test.YtlljiipmkjjhhaaDoorSha3
import Derived.Deep.RegionLaw
namespace Go.Proofs.YtlljiipmkjjhhaaDoor
open Go.RowKit

/-- One byte more: the words so far, and the bytes that do not fill a block yet. -/
def feed1 (s : List Int × List Int) (x : Int) : List Int × List Int := if s.2.length = 63 then (mixL s.1 (s.2 ++ [x]), []) else (s.1, s.2 ++ [x])
def feedL (s : List Int × List Int) (xs : List Int) : List Int × List Int := xs.foldl feed1 s

theorem feed_nil (s : List Int × List Int) : feedL s [] = s := rfl
theorem feed_append (s : List Int × List Int) (xs ys : List Int) : feedL s (xs ++ ys) = feedL (feedL s xs) ys := List.foldl_append
theorem feed_short (ws : List Int) : ∀ (xs pend : List Int), pend.length + xs.length < 64 → feedL (ws, pend) xs = (ws, pend ++ xs)
  | [], pend, _ => by rw [feed_nil, List.append_nil]
  | x :: xs, pend, h => by
    have h' : pend.length + (xs.length + 1) < 64 := by simpa using h
    have e : feed1 (ws, pend) x = (ws, pend ++ [x]) := if_neg (by show ¬ pend.length = 63; omega)
    show feedL (feed1 (ws, pend) x) xs = _
    rw [e, feed_short ws xs (pend ++ [x]) (by simp; omega), List.append_assoc]
    rfl
theorem feed_full (ws pend xs : List Int) (h : pend.length + xs.length = 64) (hp : pend.length < 64) : feedL (ws, pend) xs = (mixL ws (pend ++ xs), []) := by
  have hn : xs ≠ [] := by rintro rfl; simp at h; omega
  obtain ⟨ys, y, rfl⟩ : ∃ ys y, xs = ys ++ [y] := ⟨xs.dropLast, xs.getLast hn, (List.dropLast_concat_getLast hn).symm⟩
  have h' : pend.length + (ys.length + 1) = 64 := by simpa using h
  rw [feed_append, feed_short ws ys pend (by omega)]
  show feed1 (ws, pend ++ ys) y = _
  rw [show feed1 (ws, pend ++ ys) y = (mixL ws ((pend ++ ys) ++ [y]), []) from if_pos (by show (pend ++ ys).length = 63; simp; omega), List.append_assoc]
theorem feed_pend : ∀ (xs : List Int) (s : List Int × List Int), s.2.length < 64 → (feedL s xs).2.length < 64
  | [], _, h => h
  | x :: xs, s, h => by
    refine feed_pend xs (feed1 s x) ?_
    unfold feed1
    split
    · show 0 < 64; decide
    · simp; omega
/-- Bytes laid into the block of a Hash. -/
theorem hashC_splice {ws blk ys : List Int} {f len : Int} (hw : ws.length = 8) (hb : blk.length = 64) (p : Nat) (hp : p + ys.length ≤ 64) :
    ((hashC ws blk f len).toList.take (8 + p) ++ (ys.map (Value.int .u8) ++ (hashC ws blk f len).toList.drop (8 + p + (ys.map (Value.int .u8)).length))).toArray = hashC ws (blk.take p ++ (ys ++ blk.drop (p + ys.length))) f len := by
  have e : (hashC ws blk f len).toList = ws.map (Value.int .u32) ++ (blk.map (Value.int .u8) ++ [.int .i64 f, .int .u64 len]) := by simp [hashC, wC]
  have hw' : (ws.map (Value.int .u32)).length = 8 := by simpa using hw
  rw [e, List.length_map, List.take_append, hw', show 8 + p - 8 = p by omega, List.take_of_length_le (by rw [hw']; omega), List.take_append_of_le_length (by simp; omega), show 8 + p + ys.length = 8 + (p + ys.length) by omega, List.drop_append, hw', List.drop_eq_nil_of_le (by rw [hw']; omega), show 8 + (p + ys.length) - 8 = p + ys.length by omega, List.drop_append_of_le_length (by simp; omega)]
  simp [hashC, wC, List.map_take, List.map_drop]

theorem Kept.setRow1 {S : List Nat} {a w : World} (h : Kept S a w) {g : Nat} (hg : g ∈ S) (cs : Array Value) : Kept S a (w.setRow g cs) :=
  h.then ⟨rfl, rfl, rfl, by simp [World.setRow], fun k _ hn => setRow_other w g k cs (fun e => hn (e ▸ hg))⟩

theorem HashAt.splice {w : World} {b : Nat} {ws blk : List Int} {f len : Int} (h : HashAt w b ws blk f len) (p : Nat) (ys : List Int) (hp : p + ys.length ≤ 64) (ho : Octs ys) :
    HashAt (w.setRow b ((hashC ws blk f len).toList.take (8 + p) ++ (ys.map (Value.int .u8) ++ (hashC ws blk f len).toList.drop (8 + p + (ys.map (Value.int .u8)).length))).toArray) b ws (blk.take p ++ (ys ++ blk.drop (p + ys.length))) f len := by
  refine ⟨?_, h.words, ?_, ?_⟩
  · rw [hashC_splice h.words h.bytes p hp]
    exact setRow_heap _ _ _ _ _ _ h.cells
  · have := h.bytes
    simp
    omega
  · intro u hu
    rcases List.mem_append.1 hu with h1 | h1
    · exact h.octs u (List.mem_of_mem_take h1)
    · rcases List.mem_append.1 h1 with h2 | h2
      · exact ho u h2
      · exact h.octs u (List.mem_of_mem_drop h2)
theorem hashC_putFilled {ws blk : List Int} {f len : Int} (hw : ws.length = 8) (hb : blk.length = 64) (x : Int) : (hashC ws blk f len).setIfInBounds 72 (.int .i64 x) = hashC ws blk x len := by
  unfold hashC
  rw [Array.setIfInBounds_append_right (by simp [wC]; omega)]
  simp [wC, hw, hb]
theorem hashC_putLen {ws blk : List Int} {f len : Int} (hw : ws.length = 8) (hb : blk.length = 64) (x : Int) : (hashC ws blk f len).setIfInBounds 73 (.int .u64 x) = hashC ws blk f x := by
  unfold hashC
  rw [Array.setIfInBounds_append_right (by simp [wC]; omega)]
  simp [wC, hw, hb]
theorem HashAt.putFilled {w : World} {b : Nat} {ws blk : List Int} {f len : Int} (h : HashAt w b ws blk f len) (x : Int) : HashAt (w.setCell ⟨b, 72, none⟩ (.int .i64 x)) b ws blk x len :=
  ⟨by rw [heap_setCell_same _ _ _ _ _ _ h.cells, hashC_putFilled h.words h.bytes], h.words, h.bytes, h.octs⟩
theorem HashAt.putLen {w : World} {b : Nat} {ws blk : List Int} {f len : Int} (h : HashAt w b ws blk f len) (x : Int) : HashAt (w.setCell ⟨b, 73, none⟩ (.int .u64 x)) b ws blk f x :=
  ⟨by rw [heap_setCell_same _ _ _ _ _ _ h.cells, hashC_putLen h.words h.bytes], h.words, h.bytes, h.octs⟩

/-- copy, as one step of a region that draws. -/
theorem step_copy_row {P : Program} {ops : Array Oper} {o : Oper} {a : Act} {w : World} {K : Act → World → Prop} {Q : Exit → Act → World → Prop} {E : Prop} (hgd : o.guard = none) (d s : Operand) (dT sT : TypeId)
    (ho : o.op = .call { callee := .builtin .copy, args := #[d, s], argTypes := #[dT, sT] }) (elem : TypeId) (hu : P.underlying dT = some (.slice elem)) (hsz : (P.info? elem).map (·.size) = some 1)
    (g off dLen dCap : Nat) (ad : Addr) (sLen sCap : Nat) (hd : a.eval d = .slice (some ⟨g, off, none⟩) dLen dCap) (hs : a.eval s = .slice (some ad) sLen sCap)
    (cur : Array Value) (t : TypeId) (hg : w.heap[g]? = some (.cells cur t (0, 0))) (cs : List Value) (hn : cs.length = Nat.min sLen dLen)
    (hsrc : ∀ j v, cs[j]? = some v → w.cell? (ad.add j) = some v) (hfit : off + cs.length ≤ cur.size) (h1 : ∀ v ∈ cs, v.oneCell' = true)
    (h : K (a.put o.dst (goInt cs.length)) (w.setRow g (cur.toList.take off ++ (cs ++ cur.toList.drop (off + cs.length))).toArray)) :
    if Region.wanted o (yielded ops a.tmps) = true then Oper.wp P o a w K Q else E := by
  have hw : Region.wanted o (yielded ops a.tmps) = true := by simp [Region.wanted, hgd]
  rw [if_pos hw]
  have hrun := run_copy_row (P := P) w dT sT o.type elem g off dLen dCap ad sLen sCap cur t cs hu hsz hg hn hsrc hfit h1
  unfold Oper.wp
  simp [execOp, ho, resolve, invoke, builtin, hd, hs, hrun, Result.andThen]
  exact h
end Go.Proofs.YtlljiipmkjjhhaaDoor
