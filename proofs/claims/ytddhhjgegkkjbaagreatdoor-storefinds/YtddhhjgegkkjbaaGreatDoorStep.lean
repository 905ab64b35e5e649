/-
  WALK: (*code.Writer).Var and Bytes, U8, U32, U64, for every Writer.
  WALKS: (*code.Writer).U8, U64 and Bytes, for every Writer.
  WALKS: object.readID, readText, writeText.
  'append(l, b...)' at a step of a region that draws its order, and at a plain one: l a list of one's own, b any slice of bytes, nil too.
-/
import Derived.Test.YtddhhjgegkkjbaaGreatDoorIdEq
import Derived.Deep.RegionLaw
import Derived.Deep.AppendLies
import Derived.Deep.DrawnRows
import Derived.Test.YtddhhjgegkkjbaaGreatDoorSha2
import Derived.Laws.IdiomStrings
import Derived.Maps.AppendAt
import Derived.Laws.AppendOwnNone
namespace Go.Proofs.YtddhhjgegkkjbaaGreatDoor
open Go.RowKit

/-- Of how many groups of seven bits, but one, a number consists. -/
def lastOf (n : Int) : Nat := (Lib.bitLen (n.toNat ||| 1) - 1) / 7
/-- A number in groups of seven bits, the lowest first; k groups ahead of the last. -/
def varHead (n : Int) (k : Nat) : List Int := (List.range k).map fun i => n / 128 ^ i % 128 + 128
def varB (n : Int) : List Int := varHead n (lastOf n) ++ [n / 128 ^ lastOf n]

theorem or_one (n : Nat) : n ||| 1 = n + 1 - n % 2 := by
  rcases Nat.mod_two_eq_zero_or_one n with h | h
  · rw [nat_join 1 n 1 (by simpa using h) (by decide), h, Nat.sub_zero]
  · have e : n = (n - 1) ||| 1 := by rw [nat_join 1 (n - 1) 1 (by simp; omega) (by decide)]; omega
    rw [e, Nat.or_assoc, Nat.or_self, ← e]
    omega
theorem lastOf_spec (n : Int) (h0 : 0 ≤ n) (h1 : n ≤ 18446744073709551615) : n < 128 ^ (lastOf n + 1) ∧ (1 ≤ lastOf n → 128 ^ lastOf n ≤ n) ∧ lastOf n ≤ 9 := by
  obtain ⟨n, rfl⟩ := Int.eq_ofNat_of_zero_le h0
  have ho := or_one n
  have hs := bitLen_spec (n ||| 1) (by omega) (by omega)
  obtain ⟨L, hL⟩ : ∃ L, L = Lib.bitLen (n ||| 1) := ⟨_, rfl⟩
  have hk : lastOf (n : Int) = (L - 1) / 7 := by unfold lastOf; rw [Int.toNat_natCast, hL]
  rw [← hL] at hs
  obtain ⟨hs1, hs2, hs3, hs4⟩ := hs
  rw [hk, pow128, pow128]
  have p1 : 2 ^ L ≤ 2 ^ (7 * ((L - 1) / 7 + 1)) := Nat.pow_le_pow_right (by decide) (by omega)
  have p2 : 2 ^ (7 * ((L - 1) / 7)) ≤ 2 ^ (L - 1) := Nat.pow_le_pow_right (by decide) (by omega)
  refine ⟨?_, fun hk1 => ?_, by omega⟩
  · generalize 2 ^ (7 * ((L - 1) / 7 + 1)) = P at *
    generalize 2 ^ L = Q at *
    omega
  · have p3 : 2 ^ (7 * ((L - 1) / 7)) % 2 = 0 := by
      obtain ⟨m, hm⟩ : ∃ m, 7 * ((L - 1) / 7) = m + 1 := ⟨7 * ((L - 1) / 7) - 1, by omega⟩
      rw [hm, Nat.pow_succ]; omega
    generalize 2 ^ (7 * ((L - 1) / 7)) = P at *
    generalize 2 ^ (L - 1) = Q at *
    omega
theorem varHead_succ (n : Int) (k : Nat) : varHead n (k + 1) = varHead n k ++ [n / 128 ^ k % 128 + 128] := by simp [varHead, List.range_succ]
theorem varHead_len (n : Int) (k : Nat) : (varHead n k).length = k := by simp [varHead]
theorem div_succ (n : Int) (k : Nat) : n / 128 ^ k / 128 = n / 128 ^ (k + 1) := by
  rw [Int.pow_succ, Int.ediv_ediv_of_nonneg (Int.pow_nonneg (by decide))]
theorem last_small (n : Int) (h0 : 0 ≤ n) (h1 : n ≤ 18446744073709551615) : 0 ≤ n / 128 ^ lastOf n ∧ n / 128 ^ lastOf n ≤ 127 := by
  have hs := (lastOf_spec n h0 h1).1
  have hp : (0 : Int) < 128 ^ lastOf n := Int.pow_pos (by decide)
  refine ⟨Int.ediv_nonneg h0 (Int.le_of_lt hp), ?_⟩
  have : n / 128 ^ lastOf n < 128 := Int.ediv_lt_of_lt_mul hp (by rw [Int.pow_succ, Int.mul_comm] at hs; exact hs)
  omega
end Go.Proofs.YtddhhjgegkkjbaaGreatDoor

namespace Go.Proofs.YtddhhjgegkkjbaaGreatDoor
open Go.RowKit

/-- As 'BytesAt.kept': of an empty slice nothing is asked. -/
theorem BytesAt.keep {S : List Nat} {w w' : World} {v : Value} {ys : List Int} (h : BytesAt w v ys) (hk : Kept S w w') (hn : ys ≠ [] → ∀ b, blkOf v = some b → b ∉ S) : BytesAt w' v ys := by
  obtain ⟨ao, cap, rfl, hc, hnil, hcell⟩ := h
  refine ⟨ao, cap, rfl, hc, hnil, fun hne => ?_⟩
  obtain ⟨b, off, rfl, hh⟩ := hcell hne
  exact ⟨b, off, rfl, fun i u hu => hk.cell (hh i u hu) (hn hne b rfl)⟩

end Go.Proofs.YtddhhjgegkkjbaaGreatDoor

namespace Go.Proofs.YtddhhjgegkkjbaaGreatDoor
open Go.RowKit

theorem results_cell1 {fn : Func} {p : Tmp} {ty : TypeId} (h : fn.results = #[.cell p ty]) (tmps : Array Value) (P : Program) (w : World) :
    (results fn tmps).run P w = ((asAddr (tmps.getD p undef)).run P w).andThen fun a w₁ => (loadVar ty a).run P w₁ := by
  simp only [results, h]
  simp [Sem.run_bind, Result.andThen]
theorem kept_below {S : List Nat} {a w w' : World} {B : Nat} (h : Kept S a w) (hb : Below B w w') (hB : a.heap.size ≤ B) : Kept S a w' :=
  ⟨hb.os.trans h.os, hb.tape.trans h.tape, hb.output.trans h.output, Nat.le_trans h.size hb.size, fun k hk hn => (hb.block k (Nat.lt_of_lt_of_le hk hB)).trans (h.block k hk hn)⟩
theorem Rdr.below {w w' : World} {r g : Nat} {xs : List Int} {pl f B : Nat} (R : Rdr w r g xs pl f) (hb : Below B w w') (h1 : r < B) (h2 : g < B) : Rdr w' r g xs pl f :=
  ⟨(hb.block r h1).trans R.blk, (hb.block g h2).trans R.row, R.ne, R.le, R.small, R.oct⟩
theorem slice_all32 (b : Nat) (W : World) : (Instr.sliceAt 36 (.pointer (some ⟨b, 0, none⟩)) none none none).run Tryz.prog W = .ok (.slice (some ⟨b, 0, none⟩) 32 32) W := by
  simp [Instr.sliceAt, go_sem, run_underlying Tryz.underlying36]
/-- What an id is made of, if it is read. -/
def idOf (t : List Int) : List Int := t ++ zero32.drop t.length
theorem raw32_len (xs : List Int) (pl f : Nat) : (takeL xs pl f 3 32 0).text.length ≤ 32 := by
  unfold takeL
  split
  · exact Nat.zero_le _
  · split
    · exact Nat.zero_le _
    · simp only [List.length_drop, List.length_take]
      unfold lookL rawL
      simp
      split <;> simp
      omega
theorem zero_lit32 : (#[Value.int .u8 0, Value.int .u8 0, Value.int .u8 0, Value.int .u8 0, Value.int .u8 0, Value.int .u8 0, Value.int .u8 0, Value.int .u8 0, Value.int .u8 0, Value.int .u8 0, Value.int .u8 0, Value.int .u8 0, Value.int .u8 0, Value.int .u8 0, Value.int .u8 0, Value.int .u8 0, Value.int .u8 0, Value.int .u8 0, Value.int .u8 0, Value.int .u8 0, Value.int .u8 0, Value.int .u8 0, Value.int .u8 0, Value.int .u8 0, Value.int .u8 0, Value.int .u8 0, Value.int .u8 0, Value.int .u8 0, Value.int .u8 0, Value.int .u8 0, Value.int .u8 0, Value.int .u8 0] : Array Value) = idC zero32 := rfl

set_option maxRecDepth 100000 in
set_option maxHeartbeats 1000000 in
theorem readID_any {w : World} {r g : Nat} {xs : List Int} {pl f : Nat} (R : Rdr w r g xs pl f) (y : Took) (hy : Hid (y = takeL xs pl f 3 32 0)) :
    Calls Tryz.prog 66 #[.pointer (some ⟨r, 0, none⟩)] w fun e w' => e = .returned (.agg (idC (idOf y.text))) ∧ Rdr w' r g xs y.pl y.f ∧ Kept [r] w w' := by
  obtain ⟨wz, hwz⟩ : ∃ x, x = (w.alloc (.cells (idC zero32) 36)).alloc (.cells (idC zero32) 36) := ⟨_, rfl⟩
  have HKz : Hid (Kept [] w wz) := by rw [hwz]; exact ((Kept.refl _ _).alloc _).alloc _
  have hzs : wz.heap.size = w.heap.size + 2 := by rw [hwz, World.size_alloc, World.size_alloc]
  have HZ0 : Hid (wz.heap[w.heap.size]? = some (.cells (idC zero32) 36 (0, 0))) := by
    rw [hwz]; exact (Below.heap_alloc _ _ _ (by rw [World.size_alloc]; omega)).trans (heap_alloc_new w _)
  have HZ1 : Hid (wz.heap[w.heap.size + 1]? = some (.cells (idC zero32) 36 (0, 0))) := by
    have h := heap_alloc_new (w.alloc (.cells (idC zero32) 36)) (.cells (idC zero32) 36)
    rw [World.size_alloc] at h
    rw [hwz]; exact h
  have HR : Hid (Rdr wz.drew r g xs pl f) := R.kept HKz.out.drew (by simp) (by simp)
  have hcall : Calls Tryz.prog 49 #[.pointer (some ⟨r, 0, none⟩), .int .i64 32] wz.drew fun e w' =>
      ∃ q, e = .returned (.slice (some ⟨q, 0, none⟩) y.text.length y.text.length) ∧ w'.heap[q]? = some (.cells (y.text.map (Value.int .u8)).toArray 5 (0, 0)) ∧ wz.drew.heap.size ≤ q ∧ Rdr w' r g xs y.pl y.f ∧ Kept [r] wz.drew w' := Raw_any HR.out 32 (by decide) y hy
  have hln : y.text.length ≤ 32 := by rw [hy.out]; exact raw32_len _ _ _
  have hrl := lt_of_block R.blk
  have hgl := lt_of_block R.row
  clear R HR hy
  go_enter Tryz.func66, Tryz.ntmps66
  go_wp2_with fail
  rw [zero_lit32, ← hwz]
  clear hwz
  have hsl : ∀ W, (Instr.sliceAt 36 (.pointer (some ⟨w.heap.size + 1, 0, none⟩)) none none none).run Tryz.prog W = .ok (.slice (some ⟨w.heap.size + 1, 0, none⟩) 32 32) W := fun W => slice_all32 _ W
  have HSP : Hid ((splice (zero32.map (Value.int .u8)) 0 (y.text.map (Value.int .u8))).toArray = idC (idOf y.text)) := by
    have h : (splice (zero32.map (Value.int .u8)) 0 (y.text.map (Value.int .u8))).toArray = idC (idOf y.text) := by
      unfold splice idC idOf
      rw [List.map_append, List.map_drop]
      simp
    exact h
  have hl1 : (y.text.map (Value.int .u8)).length = Nat.min y.text.length 32 := by rw [List.length_map]; exact (Nat.min_eq_left hln).symm
  have hl2 : 0 + (y.text.map (Value.int .u8)).length ≤ (zero32.map (Value.int .u8)).length := by
    rw [List.length_map, List.length_map, Nat.zero_add]; exact hln
  have h1c := map_oneCell y.text
  have hin : (idOf y.text).length = 32 := by
    unfold idOf
    rw [List.length_append, List.length_drop]
    show y.text.length + (32 - y.text.length) = 32
    omega
  have hsi : (Tryz.prog.info? 36).map (·.size) = some (idC (idOf y.text)).size := by rw [idC_size hin]; exact Tryz.infoID
  have hai : (idC (idOf y.text)).all (·.oneCell') = true := all_oneCell_toArray (map_oneCell _)
  have hzi : (idC zero32).size = (idC (idOf y.text)).size := by rw [idC_size hin]; rfl
  go_region_law (first
    | (go_simp; go_at_call 49; refine hcall.mono ?_; rintro e w1 ⟨q, rfl, hq, hqs, hr1, hk1⟩
       have HG1 : w1.heap[w.heap.size + 1]? = some (.cells (zero32.map (Value.int .u8)).toArray 36 (0, 0)) := hk1.heap (show wz.drew.heap[w.heap.size + 1]? = _ from HZ1.out) (by simp; omega)
       have HG0 : Hid (w1.heap[w.heap.size]? = some (.cells (idC zero32) 36 (0, 0))) := hk1.heap (show wz.drew.heap[w.heap.size]? = _ from HZ0.out) (by simp; omega)
       have HP1 : 0 < (y.text.map (Value.int .u8)).length → (some (⟨w.heap.size + 1, 0, none⟩ : Addr)) = some ⟨w.heap.size + 1, 0, none⟩ ∧ ∃ ad, (some (⟨q, 0, none⟩ : Addr)) = some ad ∧ ∀ j v, (y.text.map (Value.int .u8))[j]? = some v → w1.cell? (ad.add j) = some v := fun _ => ⟨rfl, _, rfl, fun j v hj => by
         rw [Addr.add_mid, Nat.zero_add, cell_of_row _ _ _ _ _ _ hq, List.getElem?_toArray]; exact hj⟩
       have HR1 : Hid _ := hr1
       have HK1 : Hid (Kept [r] w w1) := (HKz.out.drew.more (by simp)).then hk1
       clear hr1 hk1 hq hqs)
    | (refine step_copy_splice rfl (.tmp 4) (.tmp 6) 37 37 rfl 5 Tryz.underlying37 Tryz.size_u8 (some ⟨w.heap.size + 1, 0, none⟩) (some ⟨q, 0, none⟩) 32 32 y.text.length y.text.length rfl rfl (w.heap.size + 1) 0 (zero32.map (Value.int .u8)) 36 HG1 (y.text.map (Value.int .u8)) hl1 HP1 hl2 h1c (w.heap.size + 1) w1 (Below.refl _ _) (Nat.le_refl _) ?_; intro w2 hg2 hb2
       have HS2 : Hid (w2.heap[w.heap.size + 1]? = some (.cells (idC (idOf y.text)) 36 (0, 0))) := by
         have h := hg2.out
         rw [HSP.out] at h
         exact h
       have HS0 : Hid (w2.heap[w.heap.size]? = some (.cells (idC zero32) 36 (0, 0))) := (hb2.block _ (by omega)).trans HG0.out
       have HR2 : Hid (Rdr w2 r g xs y.pl y.f) := HR1.out.below hb2 (by omega) (by omega)
       have HK2 : Hid (Kept [r] w w2) := kept_below HK1.out hb2 (by omega)
       clear hg2 hb2 HG1 HP1))
  generalize hic : idC (idOf y.text) = ic at *
  have HIC : Hid (idC (idOf y.text) = ic) := hic
  clear hic
  go_wp2_with (first
    | (refine wpList_load_row (by rfl) 36 (.tmp 3) (by rfl) (w.heap.size + 1) (by rfl) 36 ic (0, 0) _ HS2.out Tryz.underlying36 rfl hsi ?_)
    | (refine wpList_store_row (by rfl) 36 (.tmp 2) (.tmp 8) (by rfl) w.heap.size ic (by rfl) (by rfl) 36 _ HS0.out hsi hzi hai ?_))
  refine bodyPost_ret (v := .agg ic) ?_ rfl ⟨by rw [HIC.out], ?_, ?_⟩
  · rw [results_cell1 rfl]
    have hld := run_loadVar_row (P := Tryz.prog) (w2.setRow w.heap.size ic) w.heap.size 36 36 ic (0, 0) _ (setRow_heap _ _ _ _ _ _ HS0.out) Tryz.underlying36 rfl hsi
    exact hld
  · exact HR2.out.below (below_setRow (Below.refl w.heap.size w2) (Nat.le_refl _) ic) hrl hgl
  · exact kept_below HK2.out (below_setRow (Below.refl w.heap.size w2) (Nat.le_refl _) ic) (Nat.le_refl _)

set_option maxHeartbeats 400000 in
theorem readText_any {w : World} {r g : Nat} {xs : List Int} {pl f : Nat} (R : Rdr w r g xs pl f) (most : Int) (h0 : 0 ≤ most) (hm : most ≤ 9223372036854775807) (y : Took) (hy : Hid (y = takeL xs pl f 2 0 most)) :
    Calls Tryz.prog 65 #[.pointer (some ⟨r, 0, none⟩), .int .i64 most] w fun e w' => e = .returned (.string (strOfNums y.text)) ∧ Rdr w' r g xs y.pl y.f ∧ Kept [r] w w' := by
  have hcall := Bytes_any R most hm y (by rw [show max most 0 = most by omega]; exact hy)
  clear R hy
  go_enter Tryz.func65, Tryz.ntmps65
  go_wp2_with (first
    | (go_at_call 90; refine hcall.mono ?_; rintro e w1 ⟨q, rfl, hq, hqs, hr1, hk1⟩
       have hconv := (row_bytes' hq).conv
       have HR1 : Hid _ := hr1
       have HK1 : Hid _ := hk1
       clear hq hr1 hk1))
  go_ret
  exact ⟨rfl, HR1.out, HK1.out⟩

end Go.Proofs.YtddhhjgegkkjbaaGreatDoor

namespace Go.Proofs.YtddhhjgegkkjbaaGreatDoor
open Go.RowKit

/-- What 'append' of bytes leaves: a list of one's own; nothing else has turned. -/
structure Appended (w w' : World) (B : Nat) (v v' : Value) (us : List Int) : Prop where
  own : OwnB w' B v' us
  keep : ∀ (a : World) (S : List Nat), Kept S a w → (∀ k, v.ownBlock = some k → k ∈ S ∨ a.heap.size ≤ k) → Kept S a w'
  at' : v'.ownBlock = v.ownBlock ∨ v'.ownBlock = some w.heap.size

theorem run_append_bytes {w : World} {B : Nat} {v : Value} {vs : List Int} (hown : OwnB w B v vs) {x : Value} {zs : List Int} (hx : BytesAt w x zs) (hl : vs.length + zs.length ≤ 140737488355328) (hB : B ≤ w.heap.size) (ty : TypeId) :
    ∃ v' w', (Builtin.append_ #[37, 37] ty #[v, x]).run Tryz.prog w = .ok v' w' ∧ Appended w w' B v v' (vs ++ zs) := by
  obtain ⟨i0, hi, hz0, hz1, hz2⟩ := info_parts Tryz.info_u8
  obtain ⟨ao, cap, rfl, hc, hnil, hcell⟩ := hx
  cases ao with
  | none =>
    obtain rfl : zs = [] := by
      by_cases hy : zs = []
      · exact hy
      · obtain ⟨b, off, hb, _⟩ := hcell hy; cases hb
    obtain rfl := hnil rfl
    exact ⟨v, w, run_append_owned_none (P := Tryz.prog) (w := w) B _ ty 5 i0 1 Tryz.underlying37 hi v _ _ hown, by rw [List.append_nil]; exact hown, fun _ _ h _ => h, Or.inl rfl⟩
  | some a =>
    have hnews : ∀ j u, (zs.map (Value.int .u8))[j]? = some u → w.cell? (a.add j) = some u := by
      intro j u hu
      simp only [List.getElem?_map, Option.map_eq_some_iff] at hu
      obtain ⟨z, hz, rfl⟩ := hu
      obtain ⟨b, off, hb, hh⟩ := hcell (by rintro rfl; simp at hz)
      cases hb
      rw [Addr.add_mid]
      exact hh j z hz
    obtain ⟨v', w', hr, h2, h3, _, h5⟩ := run_append_own_at (P := Tryz.prog) w B _ ty 5 i0 (.int .u8 0) 1 1 Tryz.underlying37 hi hz0 hz1 hz2 rfl (by decide) v vs.length _ hown a zs.length cap (zs.map (Value.int .u8)) (by simp) hnews (map_oneCell _) (by unfold maxLen; omega) (by omega) hB
    refine ⟨v', w', hr, ?_, fun a S h hk => h.grown h3 hk, h5⟩
    unfold OwnB
    rw [List.length_append, List.map_append]
    exact h2

theorem wpList_append_bytes {ops : Array Oper} {rest : List Oper} {o : Oper} {a : Act} {w : World} {Q : Exit → Act → World → Prop} (hgd : o.guard = none) (s x : Operand)
    (ho : o.op = .call { callee := .builtin .append, args := #[s, x], argTypes := #[37, 37] }) {B : Nat} {v : Value} {vs : List Int} (hs : a.eval s = v) (hown : OwnB w B v vs)
    {X : Value} {zs : List Int} (hx : a.eval x = X) (hX : BytesAt w X zs) (hl : vs.length + zs.length ≤ 140737488355328) (hB : B ≤ w.heap.size)
    (h : ∀ v' w', Appended w w' B v v' (vs ++ zs) → wpList Tryz.prog ops Q rest (a.put o.dst v') w') : wpList Tryz.prog ops Q (o :: rest) a w := by
  refine wpList_plain hgd fun K hK => ?_
  obtain ⟨v', w', hr, h2⟩ := run_append_bytes hown hX hl hB o.type
  unfold Oper.wp execOp
  simp only [ho, resolve, invoke, builtin, Sem.run_bind, Sem.run_pure, Result.andThen_ok, List.map_toArray, List.map_cons, List.map_nil, hs, hx, hr]
  exact hK _ _ (h v' w' h2)
end Go.Proofs.YtddhhjgegkkjbaaGreatDoor
