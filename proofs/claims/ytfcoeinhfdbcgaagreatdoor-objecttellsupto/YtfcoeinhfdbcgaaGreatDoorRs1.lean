/-
  'append(l, b...)' at a step of a region that draws its order, and at a plain one: l a list of one's own, b any slice of bytes, nil too.
  PLAIN: bytes fed to a digest one by one; the laws of a piece. A copy into the middle of a Hash.
  PLAIN: the digest's turns on 32-bit words are those on natural numbers.
  WALK: satchelref2.turn; the reference's 64-bit words are the natural numbers of NatA.
-/
import Derived.Test.YtfcoeinhfdbcgaaGreatDoorSha2
import Derived.Maps.AppendAt
import Derived.Laws.AppendOwnNone
import Derived.Deep.RegionLaw
import Derived.Test.YtfcoeinhfdbcgaaGreatDoorRowP
namespace Go.Proofs.YtfcoeinhfdbcgaaGreatDoor
open Go.RowKit

/-- What 'append' of bytes leaves: a list of one's own; nothing else has turned. -/
structure Appended (w w' : World) (B : Nat) (v v' : Value) (us : List Int) : Prop where
  own : OwnB w' B v' us
  keep : ∀ (a : World) (S : List Nat), Kept S a w → (∀ k, v.ownBlock = some k → k ∈ S ∨ a.heap.size ≤ k) → Kept S a w'
  at' : v'.ownBlock = v.ownBlock ∨ v'.ownBlock = some w.heap.size

theorem run_append_bytes {w : World} {B : Nat} {v : Value} {vs : List Int} (hown : OwnB w B v vs) {x : Value} {zs : List Int} (hx : BytesAt w x zs) (hl : vs.length + zs.length ≤ 140737488355328) (hB : B ≤ w.heap.size) (ty : TypeId) :
    ∃ v' w', (Builtin.append_ #[26, 26] ty #[v, x]).run Tryz.prog w = .ok v' w' ∧ Appended w w' B v v' (vs ++ zs) := by
  obtain ⟨i0, hi, hz0, hz1, hz2⟩ := info_parts Tryz.info_u8
  obtain ⟨ao, cap, rfl, hc, hnil, hcell⟩ := hx
  cases ao with
  | none =>
    obtain rfl : zs = [] := by
      by_cases hy : zs = []
      · exact hy
      · obtain ⟨b, off, hb, _⟩ := hcell hy; cases hb
    obtain rfl := hnil rfl
    exact ⟨v, w, run_append_owned_none (P := Tryz.prog) (w := w) B _ ty 5 i0 1 Tryz.underlying26 hi v _ _ hown, by rw [List.append_nil]; exact hown, fun _ _ h _ => h, Or.inl rfl⟩
  | some a =>
    have hnews : ∀ j u, (zs.map (Value.int .u8))[j]? = some u → w.cell? (a.add j) = some u := by
      intro j u hu
      simp only [List.getElem?_map, Option.map_eq_some_iff] at hu
      obtain ⟨z, hz, rfl⟩ := hu
      obtain ⟨b, off, hb, hh⟩ := hcell (by rintro rfl; simp at hz)
      cases hb
      rw [Addr.add_mid]
      exact hh j z hz
    obtain ⟨v', w', hr, h2, h3, _, h5⟩ := run_append_own_at (P := Tryz.prog) w B _ ty 5 i0 (.int .u8 0) 1 1 Tryz.underlying26 hi hz0 hz1 hz2 rfl (by decide) v vs.length _ hown a zs.length cap (zs.map (Value.int .u8)) (by simp) hnews (map_oneCell _) (by unfold maxLen; omega) (by omega) hB
    refine ⟨v', w', hr, ?_, fun a S h hk => h.grown h3 hk, h5⟩
    unfold OwnB
    rw [List.length_append, List.map_append]
    exact h2

theorem step_append_bytes {ops : Array Oper} {o : Oper} {a : Act} {w : World} {K : Act → World → Prop} {Q : Exit → Act → World → Prop} {E : Prop} (hgd : o.guard = none) (s x : Operand)
    (ho : o.op = .call { callee := .builtin .append, args := #[s, x], argTypes := #[26, 26] }) {B : Nat} {v : Value} {vs : List Int} (hs : a.eval s = v) (hown : OwnB w B v vs)
    {X : Value} {zs : List Int} (hx : a.eval x = X) (hX : BytesAt w X zs) (hl : vs.length + zs.length ≤ 140737488355328) (hB : B ≤ w.heap.size)
    (h : ∀ v' w', Appended w w' B v v' (vs ++ zs) → K (a.put o.dst v') w') : if Region.wanted o (yielded ops a.tmps) = true then Oper.wp Tryz.prog o a w K Q else E := by
  have hw : Region.wanted o (yielded ops a.tmps) = true := by simp [Region.wanted, hgd]
  rw [if_pos hw]
  obtain ⟨v', w', hr, h2⟩ := run_append_bytes hown hX hl hB o.type
  unfold Oper.wp execOp
  simp only [ho, resolve, invoke, builtin, Sem.run_bind, Sem.run_pure, Result.andThen_ok, List.map_toArray, List.map_cons, List.map_nil, hs, hx, hr]
  exact h v' w' h2

theorem wpList_append_bytes {ops : Array Oper} {rest : List Oper} {o : Oper} {a : Act} {w : World} {Q : Exit → Act → World → Prop} (hgd : o.guard = none) (s x : Operand)
    (ho : o.op = .call { callee := .builtin .append, args := #[s, x], argTypes := #[26, 26] }) {B : Nat} {v : Value} {vs : List Int} (hs : a.eval s = v) (hown : OwnB w B v vs)
    {X : Value} {zs : List Int} (hx : a.eval x = X) (hX : BytesAt w X zs) (hl : vs.length + zs.length ≤ 140737488355328) (hB : B ≤ w.heap.size)
    (h : ∀ v' w', Appended w w' B v v' (vs ++ zs) → wpList Tryz.prog ops Q rest (a.put o.dst v') w') : wpList Tryz.prog ops Q (o :: rest) a w := by
  refine wpList_plain hgd fun K hK => ?_
  obtain ⟨v', w', hr, h2⟩ := run_append_bytes hown hX hl hB o.type
  unfold Oper.wp execOp
  simp only [ho, resolve, invoke, builtin, Sem.run_bind, Sem.run_pure, Result.andThen_ok, List.map_toArray, List.map_cons, List.map_nil, hs, hx, hr]
  exact hK _ _ (h v' w' h2)
end Go.Proofs.YtfcoeinhfdbcgaaGreatDoor

namespace Go.Proofs.YtfcoeinhfdbcgaaGreatDoor
open Go.RowKit

/-- One byte more: the words so far, and the bytes that do not fill a block yet. -/
def feed1 (s : List Int × List Int) (x : Int) : List Int × List Int := if s.2.length = 63 then (mixL s.1 (s.2 ++ [x]), []) else (s.1, s.2 ++ [x])
def feedL (s : List Int × List Int) (xs : List Int) : List Int × List Int := xs.foldl feed1 s

theorem feed_nil (s : List Int × List Int) : feedL s [] = s := rfl
theorem feed_append (s : List Int × List Int) (xs ys : List Int) : feedL s (xs ++ ys) = feedL (feedL s xs) ys := List.foldl_append
theorem feed_short (ws : List Int) : ∀ (xs pend : List Int), pend.length + xs.length < 64 → feedL (ws, pend) xs = (ws, pend ++ xs)
  | [], pend, _ => by rw [feed_nil, List.append_nil]
  | x :: xs, pend, h => by
    have h' : pend.length + (xs.length + 1) < 64 := by simpa using h
    have e : feed1 (ws, pend) x = (ws, pend ++ [x]) := if_neg (by show ¬ pend.length = 63; omega)
    show feedL (feed1 (ws, pend) x) xs = _
    rw [e, feed_short ws xs (pend ++ [x]) (by simp; omega), List.append_assoc]
    rfl
theorem feed_full (ws pend xs : List Int) (h : pend.length + xs.length = 64) (hp : pend.length < 64) : feedL (ws, pend) xs = (mixL ws (pend ++ xs), []) := by
  have hn : xs ≠ [] := by rintro rfl; simp at h; omega
  obtain ⟨ys, y, rfl⟩ : ∃ ys y, xs = ys ++ [y] := ⟨xs.dropLast, xs.getLast hn, (List.dropLast_concat_getLast hn).symm⟩
  have h' : pend.length + (ys.length + 1) = 64 := by simpa using h
  rw [feed_append, feed_short ws ys pend (by omega)]
  show feed1 (ws, pend ++ ys) y = _
  rw [show feed1 (ws, pend ++ ys) y = (mixL ws ((pend ++ ys) ++ [y]), []) from if_pos (by show (pend ++ ys).length = 63; simp; omega), List.append_assoc]
theorem feed_pend : ∀ (xs : List Int) (s : List Int × List Int), s.2.length < 64 → (feedL s xs).2.length < 64
  | [], _, h => h
  | x :: xs, s, h => by
    refine feed_pend xs (feed1 s x) ?_
    unfold feed1
    split
    · show 0 < 64; decide
    · simp; omega
theorem addL_len (ws vs : List Int) (k : Nat) : (addL ws vs k).length = ws.length := by
  induction k with
  | zero => rfl
  | succ k ih => rw [addL_succ, List.length_set, ih]
theorem mixL_len (ws blk : List Int) : (mixL ws blk).length = ws.length := addL_len _ _ _
theorem feed_words : ∀ (xs : List Int) (s : List Int × List Int), (feedL s xs).1.length = s.1.length
  | [], _ => rfl
  | x :: xs, s => by
    refine (feed_words xs (feed1 s x)).trans ?_
    unfold feed1
    split
    · exact mixL_len _ _
    · rfl
theorem feed_octs : ∀ (xs : List Int) (s : List Int × List Int), Octs s.2 → Octs xs → Octs (feedL s xs).2
  | [], _, h, _ => h
  | x :: xs, s, h, hx => by
    refine feed_octs xs (feed1 s x) ?_ (fun u hu => hx u (List.mem_cons_of_mem _ hu))
    unfold feed1
    split
    · intro u hu; cases hu
    · intro u hu
      rcases List.mem_append.1 hu with h1 | h1
      · exact h u h1
      · rw [List.mem_singleton.1 h1]; exact hx x (List.mem_cons_self)

/-- Bytes laid into the block of a Hash. -/
theorem hashC_splice {ws blk ys : List Int} {f len : Int} (hw : ws.length = 8) (hb : blk.length = 64) (p : Nat) (hp : p + ys.length ≤ 64) :
    ((hashC ws blk f len).toList.take (8 + p) ++ (ys.map (Value.int .u8) ++ (hashC ws blk f len).toList.drop (8 + p + (ys.map (Value.int .u8)).length))).toArray = hashC ws (blk.take p ++ (ys ++ blk.drop (p + ys.length))) f len := by
  have e : (hashC ws blk f len).toList = ws.map (Value.int .u32) ++ (blk.map (Value.int .u8) ++ [.int .i64 f, .int .u64 len]) := by simp [hashC, wC]
  have hw' : (ws.map (Value.int .u32)).length = 8 := by simpa using hw
  rw [e, List.length_map, List.take_append, hw', show 8 + p - 8 = p by omega, List.take_of_length_le (by rw [hw']; omega), List.take_append_of_le_length (by simp; omega), show 8 + p + ys.length = 8 + (p + ys.length) by omega, List.drop_append, hw', List.drop_eq_nil_of_le (by rw [hw']; omega), show 8 + (p + ys.length) - 8 = p + ys.length by omega, List.drop_append_of_le_length (by simp; omega)]
  simp [hashC, wC, List.map_take, List.map_drop]

theorem Kept.setRow1 {S : List Nat} {a w : World} (h : Kept S a w) {g : Nat} (hg : g ∈ S) (cs : Array Value) : Kept S a (w.setRow g cs) :=
  h.then ⟨rfl, rfl, rfl, by simp [World.setRow], fun k _ hn => setRow_other w g k cs (fun e => hn (e ▸ hg))⟩

theorem HashAt.splice {w : World} {b : Nat} {ws blk : List Int} {f len : Int} (h : HashAt w b ws blk f len) (p : Nat) (ys : List Int) (hp : p + ys.length ≤ 64) (ho : Octs ys) :
    HashAt (w.setRow b ((hashC ws blk f len).toList.take (8 + p) ++ (ys.map (Value.int .u8) ++ (hashC ws blk f len).toList.drop (8 + p + (ys.map (Value.int .u8)).length))).toArray) b ws (blk.take p ++ (ys ++ blk.drop (p + ys.length))) f len := by
  refine ⟨?_, h.words, ?_, ?_⟩
  · rw [hashC_splice h.words h.bytes p hp]
    exact setRow_heap _ _ _ _ _ _ h.cells
  · have := h.bytes
    simp
    omega
  · intro u hu
    rcases List.mem_append.1 hu with h1 | h1
    · exact h.octs u (List.mem_of_mem_take h1)
    · rcases List.mem_append.1 h1 with h2 | h2
      · exact ho u h2
      · exact h.octs u (List.mem_of_mem_drop h2)
theorem hashC_putFilled {ws blk : List Int} {f len : Int} (hw : ws.length = 8) (hb : blk.length = 64) (x : Int) : (hashC ws blk f len).setIfInBounds 72 (.int .i64 x) = hashC ws blk x len := by
  unfold hashC
  rw [Array.setIfInBounds_append_right (by simp [wC]; omega)]
  simp [wC, hw, hb]
theorem hashC_putLen {ws blk : List Int} {f len : Int} (hw : ws.length = 8) (hb : blk.length = 64) (x : Int) : (hashC ws blk f len).setIfInBounds 73 (.int .u64 x) = hashC ws blk f x := by
  unfold hashC
  rw [Array.setIfInBounds_append_right (by simp [wC]; omega)]
  simp [wC, hw, hb]
theorem HashAt.putFilled {w : World} {b : Nat} {ws blk : List Int} {f len : Int} (h : HashAt w b ws blk f len) (x : Int) : HashAt (w.setCell ⟨b, 72, none⟩ (.int .i64 x)) b ws blk x len :=
  ⟨by rw [heap_setCell_same _ _ _ _ _ _ h.cells, hashC_putFilled h.words h.bytes], h.words, h.bytes, h.octs⟩
theorem HashAt.putLen {w : World} {b : Nat} {ws blk : List Int} {f len : Int} (h : HashAt w b ws blk f len) (x : Int) : HashAt (w.setCell ⟨b, 73, none⟩ (.int .u64 x)) b ws blk f x :=
  ⟨by rw [heap_setCell_same _ _ _ _ _ _ h.cells, hashC_putLen h.words h.bytes], h.words, h.bytes, h.octs⟩

/-- copy, as one step of a region that draws. -/
theorem step_copy_row {P : Program} {ops : Array Oper} {o : Oper} {a : Act} {w : World} {K : Act → World → Prop} {Q : Exit → Act → World → Prop} {E : Prop} (hgd : o.guard = none) (d s : Operand) (dT sT : TypeId)
    (ho : o.op = .call { callee := .builtin .copy, args := #[d, s], argTypes := #[dT, sT] }) (elem : TypeId) (hu : P.underlying dT = some (.slice elem)) (hsz : (P.info? elem).map (·.size) = some 1)
    (g off dLen dCap : Nat) (ad : Addr) (sLen sCap : Nat) (hd : a.eval d = .slice (some ⟨g, off, none⟩) dLen dCap) (hs : a.eval s = .slice (some ad) sLen sCap)
    (cur : Array Value) (t : TypeId) (hg : w.heap[g]? = some (.cells cur t (0, 0))) (cs : List Value) (hn : cs.length = Nat.min sLen dLen)
    (hsrc : ∀ j v, cs[j]? = some v → w.cell? (ad.add j) = some v) (hfit : off + cs.length ≤ cur.size) (h1 : ∀ v ∈ cs, v.oneCell' = true)
    (h : K (a.put o.dst (goInt cs.length)) (w.setRow g (cur.toList.take off ++ (cs ++ cur.toList.drop (off + cs.length))).toArray)) :
    if Region.wanted o (yielded ops a.tmps) = true then Oper.wp P o a w K Q else E := by
  have hw : Region.wanted o (yielded ops a.tmps) = true := by simp [Region.wanted, hgd]
  rw [if_pos hw]
  have hrun := run_copy_row (P := P) w dT sT o.type elem g off dLen dCap ad sLen sCap cur t cs hu hsz hg hn hsrc hfit h1
  unfold Oper.wp
  simp [execOp, ho, resolve, invoke, builtin, hd, hs, hrun, Result.andThen]
  exact h
end Go.Proofs.YtfcoeinhfdbcgaaGreatDoor

namespace Go.Proofs.YtfcoeinhfdbcgaaGreatDoor
open Go.RowKit

theorem rotL_nat (x n : Nat) (hx : x < 4294967296) (hn : n ≤ 32) : rotL (x : Int) n = ((rotN x n : Nat) : Int) := by
  have hp : 2 ^ n * 2 ^ (32 - n) = 4294967296 := by rw [← Nat.pow_add, show n + (32 - n) = 32 by omega]
  have h1 : 0 < 2 ^ (32 - n) := Nat.two_pow_pos _
  have hq : x / 2 ^ n < 2 ^ (32 - n) := Nat.div_lt_of_lt_mul (by rw [hp]; exact hx)
  have hr : x % 2 ^ n < 2 ^ n := Nat.mod_lt _ (Nat.two_pow_pos n)
  have e3 : 2 ^ (32 - n) * (x % 2 ^ n) + 2 ^ (32 - n) ≤ 4294967296 := by
    rw [← hp, Nat.mul_comm (2 ^ n), ← Nat.mul_succ]
    exact Nat.mul_le_mul_left _ hr
  have e1 : IntKind.u32.wrap ((x : Int) * 2 ^ (32 - n)) = ((2 ^ (32 - n) * (x % 2 ^ n) : Nat) : Int) := by
    rw [IntKind.wrap_u32, show ((x : Int) * 2 ^ (32 - n)) = ((x * 2 ^ (32 - n) : Nat) : Int) by simp, show (4294967296 : Int) = ((4294967296 : Nat) : Int) from rfl, ← Int.natCast_emod, ← hp, Nat.mul_mod_mul_right, Nat.mul_comm]
  have e2 : (x : Int) / 2 ^ n = ((x / 2 ^ n : Nat) : Int) := by simp
  unfold rotL
  rw [e1, e2, or_u32 _ _ (by omega) (by omega), rotN_parts x n hx hn, Nat.two_pow_add_eq_or_of_lt hq]

/-- Letters as 32-bit words. -/
def castE (s : EightN) : Eight := ⟨s.a, s.b, s.c, s.d, s.e, s.f, s.g, s.h⟩

theorem up_nat (e : Nat) (h : e < 4294967296) : bits .xor .u32 (bits .xor .u32 (rotL e 6) (rotL e 11)) (rotL e 25) = ((upN e : Nat) : Int) := by
  rw [rotL_nat _ _ h (by decide), rotL_nat _ _ h (by decide), rotL_nat _ _ h (by decide), xor_u32 _ _ (rotN_lt _ _) (rotN_lt _ _), xor_u32 _ _ (xor_lt32 (rotN_lt _ _) (rotN_lt _ _)) (rotN_lt _ _)]
  rfl
theorem um_nat (e : Nat) (h : e < 4294967296) : bits .xor .u32 (bits .xor .u32 (rotL e 2) (rotL e 13)) (rotL e 22) = ((upM e : Nat) : Int) := by
  rw [rotL_nat _ _ h (by decide), rotL_nat _ _ h (by decide), rotL_nat _ _ h (by decide), xor_u32 _ _ (rotN_lt _ _) (rotN_lt _ _), xor_u32 _ _ (xor_lt32 (rotN_lt _ _) (rotN_lt _ _)) (rotN_lt _ _)]
  rfl
theorem ch_nat (e f g : Nat) (he : e < 4294967296) (hf : f < 4294967296) (hg : g < 4294967296) : bits .xor .u32 (bits .and .u32 e f) (bits .and .u32 (bits .xor .u32 4294967295 e) g) = ((chN e f g : Nat) : Int) := by
  rw [show (4294967295 : Int) = ((4294967295 : Nat) : Int) from rfl, xor_u32 _ _ (by decide) he, and_u32 _ _ he hf, and_u32 _ _ (xor_lt32 (by decide) he) hg, xor_u32 _ _ (and_lt32 he) (and_lt32 (xor_lt32 (by decide) he))]
  rfl
theorem maj_nat (a b c : Nat) (ha : a < 4294967296) (hb : b < 4294967296) (hc : c < 4294967296) : bits .xor .u32 (bits .xor .u32 (bits .and .u32 a b) (bits .and .u32 a c)) (bits .and .u32 b c) = ((majN a b c : Nat) : Int) := by
  rw [and_u32 _ _ ha hb, and_u32 _ _ ha hc, and_u32 _ _ hb hc, xor_u32 _ _ (and_lt32 ha) (and_lt32 ha), xor_u32 _ _ (xor_lt32 (and_lt32 ha) (and_lt32 ha)) (and_lt32 hb)]
  rfl

theorem eight_ext {s t : Eight} (ha : s.a = t.a) (hb : s.b = t.b) (hc : s.c = t.c) (hd : s.d = t.d) (he : s.e = t.e) (hf : s.f = t.f) (hg : s.g = t.g) (hh : s.h = t.h) : s = t := by
  cases s; cases t; simp_all

theorem turnL_nat (ws : List Int) (s : EightN) (hs : s.Ok) (t k w : Nat) (hk : at0 turnK t = (k : Int)) (hw : at0 ws t = (w : Int)) : turnL ws (castE s) t = castE (turnN k w s) := by
  have e1 := up_nat s.e hs.e
  have e2 := um_nat s.a hs.a
  have e3 := ch_nat s.e s.f s.g hs.e hs.f hs.g
  have e4 := maj_nat s.a s.b s.c hs.a hs.b hs.c
  refine eight_ext ?_ rfl rfl rfl ?_ rfl rfl rfl
  · show ((_ + _ + _ + _ + _) % 4294967296 + (_ + _) % 4294967296) % 4294967296 = (((_ : Nat) % 4294967296 : Nat) : Int)
    simp only [castE] at *
    rw [e1, e2, e3, e4, hk, hw]
    simp only [Int.natCast_emod, Int.natCast_add]
    omega
  · show (_ + (_ + _ + _ + _ + _) % 4294967296) % 4294967296 = (((_ : Nat) % 4294967296 : Nat) : Int)
    simp only [castE] at *
    rw [e1, e3, hk, hw]
    simp only [Int.natCast_emod, Int.natCast_add]
    omega

/-- The standard's words as natural numbers. -/
def turnKN : List Nat := turnK.map Int.toNat
theorem turnK_nat (t : Nat) (h : t < 64) : at0 turnK t = ((turnKN[t]?.getD 0 : Nat) : Int) := by
  have key : (List.range 64).all (fun t => decide (at0 turnK t = ((turnKN[t]?.getD 0 : Nat) : Int))) = true := by decide
  exact of_decide_eq_true (List.all_eq_true.1 key t (List.mem_range.2 h))

/-- All turns so far, on words. -/
def turnsN (w : Nat → Nat) (s : EightN) (k : Nat) : EightN := (List.range k).foldl (fun s t => turnN (turnKN[t]?.getD 0) (w t) s) s
theorem turnsN_zero (w : Nat → Nat) (s : EightN) : turnsN w s 0 = s := rfl
theorem turnsN_succ (w : Nat → Nat) (s : EightN) (k : Nat) : turnsN w s (k + 1) = turnN (turnKN[k]?.getD 0) (w k) (turnsN w s k) := by
  unfold turnsN; rw [List.range_succ, List.foldl_append]; rfl
theorem turnsN_ok {w : Nat → Nat} {s : EightN} (h : s.Ok) (k : Nat) : (turnsN w s k).Ok := by
  induction k with
  | zero => exact h
  | succ k ih => rw [turnsN_succ]; exact turnN_ok ih
theorem turnsL_nat (ws : List Int) (w : Nat → Nat) (hw : ∀ t, t < 64 → at0 ws t = (w t : Int)) (s : EightN) (hs : s.Ok) (k : Nat) (hk : k ≤ 64) : turnsL ws (castE s) k = castE (turnsN w s k) := by
  induction k with
  | zero => rfl
  | succ k ih => rw [turnsL_succ, ih (by omega), turnsN_succ, turnL_nat ws _ (turnsN_ok hs k) k _ _ (turnK_nat k (by omega)) (hw k (by omega))]

/-- The words behind a block. -/
def addN (s t : EightN) : EightN := ⟨(s.a + t.a) % 4294967296, (s.b + t.b) % 4294967296, (s.c + t.c) % 4294967296, (s.d + t.d) % 4294967296, (s.e + t.e) % 4294967296, (s.f + t.f) % 4294967296, (s.g + t.g) % 4294967296, (s.h + t.h) % 4294967296⟩
theorem addN_ok (s t : EightN) : (addN s t).Ok := by constructor <;> exact Nat.mod_lt _ (by decide)
def castL (s : EightN) : List Int := [(s.a : Int), s.b, s.c, s.d, s.e, s.f, s.g, s.h]
theorem addL_nat (s t : EightN) : addL (castL s) (eightL (castE t)) 8 = castL (addN s t) := by
  have e : addL (castL s) (eightL (castE t)) 8 = [((s.a : Int) + t.a) % 4294967296, ((s.b : Int) + t.b) % 4294967296, ((s.c : Int) + t.c) % 4294967296, ((s.d : Int) + t.d) % 4294967296, ((s.e : Int) + t.e) % 4294967296, ((s.f : Int) + t.f) % 4294967296, ((s.g : Int) + t.g) % 4294967296, ((s.h : Int) + t.h) % 4294967296] := rfl
  rw [e]
  simp [castL, addN]
theorem eightOf_nat (s : EightN) : eightOf (castL s) = castE s := rfl
def mixN (w : Nat → Nat) (s : EightN) : EightN := addN s (turnsN w s 64)
theorem mixN_ok (w : Nat → Nat) (s : EightN) : (mixN w s).Ok := addN_ok _ _
theorem mixL_nat (s : EightN) (hs : s.Ok) (blk : List Int) (w : Nat → Nat) (hw : ∀ t, t < 64 → at0 (stretchL blk 48) t = (w t : Int)) : mixL (castL s) blk = castL (mixN w s) := by
  unfold mixL mixN
  rw [eightOf_nat, turnsL_nat _ w hw s hs 64 (by decide), addL_nat]
end Go.Proofs.YtfcoeinhfdbcgaaGreatDoor

namespace Go.Proofs.YtfcoeinhfdbcgaaGreatDoor
open Go.RowKit

theorem turn64 (x n : Nat) (hx : x < 4294967296) : bits .and .u64 (bits .or .u64 ((x : Int) * 4294967296) x / 2 ^ n) 4294967295 = ((rotN x n : Nat) : Int) := by
  have e1 : (x : Int) * 4294967296 = ((2 ^ 32 * x : Nat) : Int) := by omega
  have hq : 2 ^ 32 * x + x = x * 4294967297 := by omega
  rw [e1, bits_or_u64_nat _ _ (by omega) (by omega), ← Nat.two_pow_add_eq_or_of_lt (i := 32) hx x, hq]
  rw [show ((x * 4294967297 : Nat) : Int) / 2 ^ n = ((x * 4294967297 / 2 ^ n : Nat) : Int) by simp, show (4294967295 : Int) = ((4294967295 : Nat) : Int) from rfl]
  have hb : x * 4294967297 / 2 ^ n < 18446744073709551616 := Nat.lt_of_le_of_lt (Nat.div_le_self _ _) (by omega)
  rw [bits_and_u64_nat _ _ hb (by decide), show (4294967295 : Nat) = 2 ^ 32 - 1 from rfl, Nat.and_two_pow_sub_one_eq_mod]
  rfl

set_option maxHeartbeats 1000000 in
theorem turn_any (x n : Nat) (hx : x < 4294967296) (hn : n ≤ 32) (w : World) :
    Calls Tryz.prog 69 #[.int .u64 (x : Int), .int .i64 (n : Int)] w fun e w' => e = .returned (.int .u64 ((rotN x n : Nat) : Int)) ∧ w' = w := by
  have r := turn64 x n hx
  have r5 : (0 : Int) ≤ (n : Int) := by omega
  have r6 : (n : Int) ≤ 64 := by omega
  have r7 : IntKind.u64.wrap (n : Int) = n := by rw [IntKind.wrap_u64]; omega
  go_enter Tryz.func69, Tryz.ntmps69
  go_wp2
  go_ret
  exact ⟨by rw [← r]; rfl, rfl⟩
end Go.Proofs.YtfcoeinhfdbcgaaGreatDoor
