/-
  WALKS: digest.Sum, for every list of bytes; satchellaw2.right answers true.
  PLAIN: the digest, block by block over the whole padded text, is the one that is fed byte by byte.
  LAW: 'copy' into a row of one's own, of nothing or of something.
-/
import Derived.Test.YtfcoeinhfdbcgaaGreatDoorSha7
import Derived.Test.YtfcoeinhfdbcgaaGreatDoorRs4
import Derived.Test.YtfcoeinhfdbcgaaGreatDoorPlain
import Derived.Test.YtfcoeinhfdbcgaaGreatDoorSha2
import Derived.Laws.CopyOwn
import Derived.Test.YtfcoeinhfdbcgaaGreatDoorRs1
namespace Go.Proofs.YtfcoeinhfdbcgaaGreatDoor
open Go.RowKit

/-- The digest of bytes. -/
def digL (xs : List Int) : List Int := sumL (feedL (firstL, []) xs) xs.length
theorem digL_len (xs : List Int) : (digL xs).length = 32 := sumL_len _ _
theorem digL_octs (xs : List Int) : Octs (digL xs) := sumL_octs _ _
/-- A Hash that these bytes were written to. -/
def HashX (w : World) (b : Nat) (xs : List Int) : Prop := HashOf w b (feedL (firstL, []) xs) xs.length ∧ b ≠ 3 ∧ b ≠ 6
theorem HashX.kept {S : List Nat} {w w' : World} {b : Nat} {xs : List Int} (h : HashX w b xs) (k : Kept S w w') (hn : b ∉ S) : HashX w' b xs := ⟨h.1.kept k hn, h.2⟩
theorem HashX.lt {w : World} {b : Nat} {xs : List Int} (h : HashX w b xs) : b < w.heap.size := by
  obtain ⟨⟨r, hA, _⟩, _⟩ := h
  exact lt_of_block hA.cells

theorem NewX_any (w : World) (hV : Vars w) :
    Calls Tryz.prog 65 #[] w fun e w' => e = .returned (.pointer (some ⟨w.heap.size, 0, none⟩)) ∧ HashX w' w.heap.size [] ∧ Kept [] w w' :=
  (HNew_any w hV).mono fun _ _ h => ⟨h.1, ⟨h.2.1, by have := hV.lt; omega, by have := hV.lt; omega⟩, h.2.2⟩
theorem WriteX_any (w : World) (b : Nat) (ys : List Int) (v : Value) (xs : List Int) (hV : Vars w) (hH : HashX w b ys) (hx : BytesAt w v xs) (ho : Octs xs) (hd : ∀ q, blkOf v = some q → xs ≠ [] → q ≠ b) (hn : xs.length ≤ 140737488355328) (hy : ys.length ≤ 9000000000000000000) :
    Calls Tryz.prog 66 #[.pointer (some ⟨b, 0, none⟩), v] w fun e w' => e = .returned (.tuple #[]) ∧ HashX w' b (ys ++ xs) ∧ Kept [b] w w' := by
  refine (Write_any w b _ _ v xs hV hH.2.1 hH.2.2 hH.1 hx ho hd hn).mono fun _ _ h => ⟨h.1, ⟨?_, hH.2⟩, h.2.2⟩
  have e : IntKind.u64.wrap ((ys.length : Int) + xs.length) = ((ys ++ xs).length : Int) := by
    rw [IntKind.wrap_u64, List.length_append]; omega
  have := h.2.1
  rw [e, ← feed_append] at this
  exact this
theorem SumX_any (w : World) (b : Nat) (xs : List Int) (hV : Vars w) (hH : HashX w b xs) :
    Calls Tryz.prog 67 #[.pointer (some ⟨b, 0, none⟩)] w fun e w' => e = .returned (.agg (idC (digL xs))) ∧ Kept [] w w' := HSum_any w b _ _ hV hH.1

theorem BytesAt.lt {w : World} {v : Value} {xs : List Int} (hx : BytesAt w v xs) : ∀ q, blkOf v = some q → xs ≠ [] → q < w.heap.size := by
  intro q hq hne
  obtain ⟨ao, cap, rfl, _, _, hc⟩ := hx
  obtain ⟨b, off, rfl, hh⟩ := hc hne
  cases hq
  cases xs with
  | nil => exact absurd rfl hne
  | cons x r => exact World.block_lt_of_cell? w _ (hh 0 x rfl)

set_option maxRecDepth 100000 in
set_option maxHeartbeats 4000000 in
theorem Sum_any (w : World) (v : Value) (xs : List Int) (hV : Vars w) (hx : BytesAt w v xs) (ho : Octs xs) (hn : xs.length ≤ 140737488355328) :
    Calls Tryz.prog 39 #[v] w fun e w' => e = .returned (.agg (idC (digL xs))) ∧ Kept [] w w' := by
  have hvl := hx.lt
  obtain ⟨ic, hic⟩ : ∃ ic, ic = idC (digL xs) := ⟨_, rfl⟩
  have hszi : (Tryz.prog.info? 29).map (·.size) = some ic.size := by rw [hic, idC_size (digL_len xs)]; exact Tryz.infoID
  have halli : ic.all (·.oneCell') = true := by rw [hic]; exact all_oneCell_toArray (map_oneCell _)
  have hosi : (idC zid).size = ic.size := by rw [hic, idC_size (digL_len xs)]; rfl
  have HV : Hid (∀ W, Kept [] w W → Vars W) := fun W hk => hV.kept hk (by simp) (by simp)
  have HW : Hid (∀ W, Kept [] w W → ∀ b, w.heap.size < b → HashX W b [] → Calls Tryz.prog 66 #[.pointer (some ⟨b, 0, none⟩), v] W fun e w' => e = .returned (.tuple #[]) ∧ HashX w' b xs ∧ Kept [b] W w') :=
    fun W hk b hb hH => WriteX_any W b [] v xs (HV.out W hk) hH (hx.kept' hk (by simp)) ho (fun q hq hne => by have := hvl q hq hne; omega) hn (by simp)
  have HS : Hid (∀ W, Vars W → ∀ b, HashX W b xs → Calls Tryz.prog 67 #[.pointer (some ⟨b, 0, none⟩)] W fun e w' => e = .returned (.agg ic) ∧ Kept [] W w') := by
    rw [hic]; exact fun W h b hH => SumX_any W b xs h hH
  have HI : Hid (ic = idC (digL xs)) := hic
  have HN := NewX_any (w.alloc (.cells (idC zid) 29)) (HV.out _ ((Kept.refl [] w).alloc _))
  rw [show (w.alloc (.cells (idC zid) 29)).heap.size = w.heap.size + 1 by simp] at HN
  clear hvl hV hx ho hn hic
  go_enter Tryz.func39, Tryz.ntmps39
  go_wp2_with (first
    | (go_at_call 65; refine HN.mono ?_; rintro e w1 ⟨rfl, hH1, hk1⟩
       have HI1 : Hid (w1.heap[w.heap.size]? = some (.cells (idC zid) 29 (0, 0))) := hk1.heap (heap_alloc_new w _) (by simp)
       have HK1 : Hid (Kept [] w w1) := ((Kept.refl [] w).alloc _).then hk1
       have HW1 := HW.out w1 HK1.out (w.heap.size + 1) (by omega) hH1
       clear hH1 hk1)
    | (go_at_call 66; refine HW1.mono ?_; rintro e w2 ⟨rfl, hH2, hk2⟩
       have HI2 : Hid (w2.heap[w.heap.size]? = some (.cells (idC zid) 29 (0, 0))) := hk2.heap HI1.out (by simp)
       have HK2 : Hid (Kept [] w w2) := HK1.out.trans hk2 (fun x hx => Or.inr (by simp at hx; omega))
       have HS2 := HS.out w2 (HV.out w2 HK2.out) (w.heap.size + 1) hH2
       clear hH2 hk2)
    | (go_at_call 67; refine HS2.mono ?_; rintro e w3 ⟨rfl, hk3⟩
       have HI3 : Hid (w3.heap[w.heap.size]? = some (.cells (idC zid) 29 (0, 0))) := hk3.heap HI2.out (by simp)
       have HK3 : Hid (Kept [] w w3) := HK2.out.then hk3
       clear hk3)
    | (refine wpList_store_row rfl 29 (.tmp 2) (.tmp 9) rfl w.heap.size ic rfl rfl 29 _ HI3.out hszi hosi halli ?_))
  refine bodyPost_ret (v := .agg ic) ?_ rfl ⟨by rw [HI.out], kept_setRow HK3.out (Nat.le_refl _) _⟩
  rw [results_cell rfl]
  have hld := run_loadVar_row (P := Tryz.prog) (w3.setRow w.heap.size ic) w.heap.size 29 29 ic (0, 0) _ (setRow_heap _ _ _ _ _ _ HI3.out) Tryz.underlying29 rfl hszi
  exact hld
end Go.Proofs.YtfcoeinhfdbcgaaGreatDoor

namespace Go.Proofs.YtfcoeinhfdbcgaaGreatDoor
open Go.RowKit

/-- The sixty-four words of sixteen. -/
def sched (m : Nat → Nat) (t : Nat) : Nat :=
  if h : t < 16 then m t else (highN (sched m (t - 2)) + sched m (t - 7) + lowN (sched m (t - 15)) + sched m (t - 16)) % 4294967296
termination_by t
theorem sched_first (m : Nat → Nat) (t : Nat) (h : t < 16) : sched m t = m t := by rw [sched, dif_pos h]
theorem sched_next (m : Nat → Nat) (t : Nat) (h : ¬ t < 16) : sched m t = (highN (sched m (t - 2)) + sched m (t - 7) + lowN (sched m (t - 15)) + sched m (t - 16)) % 4294967296 := by rw [sched, dif_neg h]
theorem sched_lt (m : Nat → Nat) (hm : ∀ t, t < 16 → m t < 4294967296) (t : Nat) : sched m t < 4294967296 := by
  by_cases h : t < 16
  · rw [sched_first m t h]; exact hm t h
  · rw [sched_next m t h]; exact Nat.mod_lt _ (by decide)
theorem sched_congr (m m' : Nat → Nat) (h : ∀ t, t < 16 → m t = m' t) : ∀ t, sched m t = sched m' t := by
  intro t
  induction t using Nat.strongRecOn with
  | _ t ih =>
    by_cases h16 : t < 16
    · rw [sched_first _ _ h16, sched_first _ _ h16]; exact h t h16
    · rw [sched_next _ _ h16, sched_next _ _ h16, ih (t - 2) (by omega), ih (t - 7) (by omega), ih (t - 15) (by omega), ih (t - 16) (by omega)]

theorem at0_set_same (l : List Int) (i : Nat) (x : Int) (h : i < l.length) : at0 (l.set i x) i = x := by simp [at0, h]
theorem at0_set_other (l : List Int) (i j : Nat) (x : Int) (h : i ≠ j) : at0 (l.set i x) j = at0 l j := by simp [at0, List.getElem?_set_ne h]

theorem accL_small {l : List Int} (h : Octs l) (i k : Nat) (hk : k ≤ 4) : 0 ≤ accL l i k ∧ accL l i k < 4294967296 := by
  have := accL_fits h i k
  have hp : (256 : Int) ^ k ≤ 4294967296 := by
    have : k = 0 ∨ k = 1 ∨ k = 2 ∨ k = 3 ∨ k = 4 := by omega
    rcases this with rfl | rfl | rfl | rfl | rfl <;> decide
  omega
theorem or_byte (x y : Int) (hx0 : 0 ≤ x) (hx : x < 16777216) (hy0 : 0 ≤ y) (hy : y ≤ 255) : bits .or .u32 (IntKind.u32.wrap (x * 256)) y = 256 * x + y := by
  rw [wraps_u32 _ (by omega) (by omega), bits_join .u32 32 (by decide) wraps_u32 8 (x * 256) y (by omega) (by omega) (by omega) hy0 (by omega) (by omega)]
  omega

theorem packL_at (blk : List Int) (ho : Octs blk) (k : Nat) (hk : k ≤ 64) : ∀ t, t < 64 → at0 (packL blk k) t = accL blk (4 * t) (min 4 (k - 4 * t)) := by
  induction k with
  | zero =>
    intro t ht
    rw [packL_zero, Nat.zero_sub, Nat.min_zero, accL_zero]
    unfold at0 zero64
    rw [List.getElem?_replicate]
    split <;> rfl
  | succ k ih =>
    intro t ht
    rw [packL_succ, packStep]
    by_cases h : k / 4 = t
    · subst h
      rw [at0_set_same _ _ _ (by rw [packL_len]; omega), ih (by omega) (k / 4) ht, show min 4 (k - 4 * (k / 4)) = k % 4 by omega, show min 4 (k + 1 - 4 * (k / 4)) = k % 4 + 1 by omega, accL_succ, show 4 * (k / 4) + k % 4 = k by omega]
      have h1 := accL_fits ho (4 * (k / 4)) (k % 4)
      have h2 := octs_at0 ho k
      have h3 : (256 : Int) ^ (k % 4) ≤ 16777216 := by
        have : k % 4 = 0 ∨ k % 4 = 1 ∨ k % 4 = 2 ∨ k % 4 = 3 := by omega
        rcases this with h | h | h | h <;> rw [h] <;> decide
      exact or_byte _ _ h1.1 (by omega) h2.1 h2.2
    · rw [at0_set_other _ _ _ _ h, ih (by omega) t ht, show min 4 (k + 1 - 4 * t) = min 4 (k - 4 * t) by omega]

/-- The sixteen words of a block in a text. -/
def mW (P : List Int) (b t : Nat) : Nat := (accL P (64 * b + 4 * t) 4).toNat
theorem mW_cast {P : List Int} (ho : Octs P) (b t : Nat) : ((mW P b t : Nat) : Int) = accL P (64 * b + 4 * t) 4 := by
  have := accL_small ho (64 * b + 4 * t) 4 (by decide)
  unfold mW; omega
theorem mW_lt {P : List Int} (ho : Octs P) (b t : Nat) : mW P b t < 4294967296 := by
  have := accL_small ho (64 * b + 4 * t) 4 (by decide)
  unfold mW; omega

theorem low_nat (x : Nat) (h : x < 4294967296) : bits .xor .u32 (bits .xor .u32 (rotL x 7) (rotL x 18)) ((x : Int) / 8) = ((lowN x : Nat) : Int) := by
  rw [rotL_nat _ _ h (by decide), rotL_nat _ _ h (by decide), show ((x : Int) / 8) = ((x / 8 : Nat) : Int) by omega, xor_u32 _ _ (rotN_lt _ _) (rotN_lt _ _), xor_u32 _ _ (xor_lt32 (rotN_lt _ _) (rotN_lt _ _)) (by omega)]
  rfl
theorem high_nat (x : Nat) (h : x < 4294967296) : bits .xor .u32 (bits .xor .u32 (rotL x 17) (rotL x 19)) ((x : Int) / 1024) = ((highN x : Nat) : Int) := by
  rw [rotL_nat _ _ h (by decide), rotL_nat _ _ h (by decide), show ((x : Int) / 1024) = ((x / 1024 : Nat) : Int) by omega, xor_u32 _ _ (rotN_lt _ _) (rotN_lt _ _), xor_u32 _ _ (xor_lt32 (rotN_lt _ _) (rotN_lt _ _)) (by omega)]
  rfl

theorem stretchL_at (blk : List Int) (ho : Octs blk) (k : Nat) (hk : k ≤ 48) : ∀ t, t < 16 + k → at0 (stretchL blk k) t = ((sched (mW blk 0) t : Nat) : Int) := by
  have hm : ∀ t, t < 16 → mW blk 0 t < 4294967296 := fun t _ => mW_lt ho 0 t
  induction k with
  | zero =>
    intro t ht
    rw [stretchL_zero, packL_at blk ho 64 (by decide) t (by omega), sched_first _ _ (by omega), mW_cast ho, show min 4 (64 - 4 * t) = 4 by omega, show 64 * 0 + 4 * t = 4 * t by omega]
  | succ k ih =>
    intro t ht
    have ih' := ih (by omega)
    rw [stretchL_succ]
    unfold stretchStep
    by_cases h : 16 + k = t
    · subst h
      simp only []
      rw [at0_set_same _ _ _ (by rw [stretchL_len]; omega), ih' (16 + k - 15) (by omega), ih' (16 + k - 2) (by omega), ih' (16 + k - 7) (by omega), ih' (16 + k - 16) (by omega), low_nat _ (sched_lt _ hm _), high_nat _ (sched_lt _ hm _), sched_next _ (16 + k) (by omega)]
      simp only [Int.natCast_emod, Int.natCast_add]
      rfl
    · simp only []
      rw [at0_set_other _ _ _ _ h, ih' t (by omega)]

theorem mixL_block (s : EightN) (hs : s.Ok) (blk : List Int) (ho : Octs blk) : mixL (castL s) blk = castL (mixN (sched (mW blk 0)) s) :=
  mixL_nat s hs blk _ fun t ht => stretchL_at blk ho 48 (by decide) t (by omega)

/-- The words behind so many blocks of a text. -/
def hashN (P : List Int) : Nat → EightN → EightN
  | 0, s => s
  | b + 1, s => mixN (sched (mW P b)) (hashN P b s)
theorem hashN_succ (P : List Int) (b : Nat) (s : EightN) : hashN P (b + 1) s = mixN (sched (mW P b)) (hashN P b s) := rfl
theorem hashN_ok (P : List Int) (b : Nat) (s : EightN) (h : s.Ok) : (hashN P b s).Ok := by
  cases b with
  | zero => exact h
  | succ b => exact mixN_ok _ _

theorem accL_congr (l l' : List Int) (i i' k : Nat) (h : ∀ j, j < k → at0 l (i + j) = at0 l' (i' + j)) : accL l i k = accL l' i' k := by
  induction k with
  | zero => rfl
  | succ k ih => rw [accL_succ, accL_succ, ih (fun j hj => h j (by omega)), h k (by omega)]
theorem at0_piece (P : List Int) (b j : Nat) (hj : j < 64) : at0 ((P.drop (64 * b)).take 64) j = at0 P (64 * b + j) := by
  unfold at0
  rw [List.getElem?_take_of_lt hj, List.getElem?_drop]
theorem mixN_congr (f f' : Nat → Nat) (h : ∀ t, t < 64 → f t = f' t) (s : EightN) : mixN f s = mixN f' s := by
  have : ∀ k, k ≤ 64 → turnsN f s k = turnsN f' s k := by
    intro k
    induction k with
    | zero => intro _; rw [turnsN_zero, turnsN_zero]
    | succ k ih => intro hk; rw [turnsN_succ, turnsN_succ, ih (by omega), h k (by omega)]
  exact congrArg (addN s) (this 64 (Nat.le_refl 64))
theorem feed_blocks (P : List Int) (ho : Octs P) (s : EightN) (hs : s.Ok) (n : Nat) (hn : 64 * n ≤ P.length) : feedL (castL s, []) (P.take (64 * n)) = (castL (hashN P n s), []) := by
  induction n with
  | zero => rfl
  | succ n ih =>
    have hb : ((P.drop (64 * n)).take 64).length = 64 := by simp; omega
    have hbo : Octs ((P.drop (64 * n)).take 64) := fun u hu => ho u (List.mem_of_mem_drop (List.mem_of_mem_take hu))
    rw [show 64 * (n + 1) = 64 * n + 64 by omega, List.take_add, feed_append, ih (by omega), feed_full _ [] _ (by rw [hb]; rfl) (by decide), List.nil_append, mixL_block _ (hashN_ok P n s hs) _ hbo, hashN_succ]
    rw [mixN_congr (sched (mW ((P.drop (64 * n)).take 64) 0)) (sched (mW P n)) (fun t _ => sched_congr _ _ (fun t ht => ?_) t)]
    unfold mW
    rw [accL_congr ((P.drop (64 * n)).take 64) P (64 * 0 + 4 * t) (64 * n + 4 * t) 4 (fun j hj => by rw [at0_piece P n _ (by omega)]; congr 1; omega)]

theorem feed_pending : ∀ (xs : List Int) (s : List Int × List Int), s.2.length < 64 → (feedL s xs).2.length = (s.2.length + xs.length) % 64
  | [], s, h => by rw [feed_nil]; simp; omega
  | x :: xs, s, h => by
    show (feedL (feed1 s x) xs).2.length = _
    by_cases h63 : s.2.length = 63
    · have e : feed1 s x = (mixL s.1 (s.2 ++ [x]), []) := if_pos h63
      rw [e, feed_pending xs _ (by show 0 < 64; decide)]
      simp; omega
    · have e : feed1 s x = (s.1, s.2 ++ [x]) := if_neg h63
      rw [e, feed_pending xs _ (by simp; omega)]
      simp; omega

theorem padFrom_form (n : Nat) (told : Int) (hn : 9 ≤ n) (k : Nat) (hk : k ≤ 8) : padFrom n told k = ([128] ++ List.replicate (n - 1 - k) 0) ++ (lastL told).drop (8 - k) := by
  induction k with
  | zero =>
    rw [padFrom_zero, show n = (n - 1) + 1 by omega, List.replicate_succ, List.set_cons_zero, List.drop_eq_nil_of_le (by simp [lastL])]
    simp
  | succ k ih =>
    have hl : (lastL told).length = 8 := by simp [lastL]
    rw [padFrom_succ, padStep, padFrom_len, ih (by omega), List.set_append_left _ _ (by simp <;> omega), List.set_append_right _ _ (by simp <;> omega)]
    rw [show n - 1 - k = (n - 1 - (k + 1)) + 1 by omega, List.replicate_succ', show [(128 : Int)].length = 1 from rfl, List.set_append_right _ _ (by simp), List.length_replicate]
    rw [show n - 1 - (k + 1) + 1 - 1 - (n - 1 - (k + 1)) = 0 by omega, List.set_cons_zero, List.append_assoc, List.append_assoc, List.append_assoc]
    congr 2
    rw [show 8 - k = (8 - (k + 1)) + 1 by omega, List.drop_eq_getElem_cons (show 8 - (k + 1) < (lastL told).length by omega)]
    rw [show [IntKind.u8.wrap (told / 2 ^ (8 * k))] ++ (lastL told).drop (8 - (k + 1) + 1) = IntKind.u8.wrap (told / 2 ^ (8 * k)) :: (lastL told).drop (8 - (k + 1) + 1) from rfl]
    congr 1
    simp only [lastL, List.getElem_map, List.getElem_range, IntKind.wrap_u8]
    rw [show 56 - 8 * (8 - (k + 1)) = 8 * k by omega]
theorem padR_eq (xs : List Int) (h : xs.length ≤ 1000000000000) : xs ++ padL (xs.length % 64) xs.length = padR xs := by
  have hp : xs.length % 64 < 64 := Nat.mod_lt _ (by decide)
  have e1 : IntKind.u64.wrap ((xs.length : Int) * 8) = 8 * (xs.length : Int) := by rw [IntKind.wrap_u64]; omega
  have e2 : 9 ≤ padN (xs.length % 64) := by unfold padN; split <;> omega
  have e3 : padN (xs.length % 64) - 1 - 8 = zerosN xs.length := by unfold padN zerosN; split <;> omega
  unfold padL padR headL
  rw [e1, padFrom_form _ _ e2 8 (by decide), e3]
  simp

def firstN : EightN := ⟨1779033703, 3144134277, 1013904242, 2773480762, 1359893119, 2600822924, 528734635, 1541459225⟩
theorem firstN_ok : firstN.Ok := by constructor <;> decide
theorem firstN_cast : castL firstN = firstL := rfl
theorem digL_ref (xs : List Int) (ho : Octs xs) (h : xs.length ≤ 1000000000000) : digL xs = outK (castL (hashN (padR xs) ((padR xs).length / 64) firstN)) 32 := by
  have hp := padR_len xs
  have hf := feed_blocks (padR xs) (padR_octs xs ho) firstN firstN_ok ((padR xs).length / 64) (by omega)
  rw [show 64 * ((padR xs).length / 64) = (padR xs).length by omega, List.take_length, firstN_cast] at hf
  unfold digL sumL
  rw [← feed_append, feed_pending xs (firstL, []) (by decide)]
  rw [show (([] : List Int).length + xs.length) % 64 = xs.length % 64 by simp, padR_eq xs h, hf]
end Go.Proofs.YtfcoeinhfdbcgaaGreatDoor

namespace Go.Proofs.YtfcoeinhfdbcgaaGreatDoor
open Go.RowKit

theorem wpList_copy_kept {P : Program} {w : World} {ops : Array Oper} {rest : List Oper} {o : Oper} {a : Act} {Q : Exit → Act → World → Prop} (hgd : o.guard = none) (d s : Operand) (dT sT : TypeId)
    (ho : o.op = .call { callee := .builtin .copy, args := #[d, s], argTypes := #[dT, sT] }) (elem : TypeId) (hu : P.underlying dT = some (.slice elem)) (hsz : (P.info? elem).map (·.size) = some 1)
    (dp sp : Option Addr) (dLen dCap sLen sCap : Nat) (hd : a.eval d = .slice dp dLen dCap) (hs : a.eval s = .slice sp sLen sCap)
    (g off : Nat) (cur : List Value) (t : TypeId) (hg : w.heap[g]? = some (.cells cur.toArray t (0, 0))) (cs : List Value) (hn : cs.length = Nat.min sLen dLen)
    (hpos : 0 < cs.length → dp = some ⟨g, off, none⟩ ∧ ∃ ad, sp = some ad ∧ ∀ j v, cs[j]? = some v → w.cell? (ad.add j) = some v)
    (hfit : off + cs.length ≤ cur.length) (h1 : ∀ v ∈ cs, v.oneCell' = true)
    (h : ∀ w', Hid (w'.heap[g]? = some (.cells (splice cur off cs).toArray t (0, 0))) → Kept [g] w w' → wpList P ops Q rest (a.put o.dst (goInt cs.length)) w') :
    wpList P ops Q (o :: rest) a w := by
  by_cases h0 : cs.length = 0
  · obtain rfl : cs = [] := List.eq_nil_of_length_eq_zero h0
    refine wpList_copy_nothing hgd d s dT sT ho elem hu hsz dp sp dLen dCap sLen sCap hd hs (by simpa using hn.symm) ?_
    exact h w (show _ = _ by simpa [splice] using hg) (Kept.refl _ _)
  · obtain ⟨rfl, ad, rfl, hsrc⟩ := hpos (by omega)
    refine wpList_copy_own hgd d s dT sT ho elem hu hsz g off dLen dCap ad sLen sCap hd hs cur.toArray t hg cs hn hsrc (by simpa using hfit) h1 ?_
    exact h _ (show _ = _ by simpa [splice] using setRow_heap w g _ _ t _ hg) ((Kept.refl [g] w).setRow1 (by simp) _)
end Go.Proofs.YtfcoeinhfdbcgaaGreatDoor
