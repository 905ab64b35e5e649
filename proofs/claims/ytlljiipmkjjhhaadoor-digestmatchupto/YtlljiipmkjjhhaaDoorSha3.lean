/-
  WALK: (*digest.Hash).mix, for every Hash: the block is worked into the words.
-/
import Derived.Test.YtlljiipmkjjhhaaDoorSha2
import Derived.Deep.WholeRow
namespace Go.Proofs.YtlljiipmkjjhhaaDoor
open Go.RowKit

/-- The standard's words. -/
def firstL : List Int := [1779033703, 3144134277, 1013904242, 2773480762, 1359893119, 2600822924, 528734635, 1541459225]
def turnK : List Int := [1116352408, 1899447441, 3049323471, 3921009573, 961987163, 1508970993, 2453635748, 2870763221, 3624381080, 310598401, 607225278, 1426881987, 1925078388, 2162078206, 2614888103, 3248222580, 3835390401, 4022224774, 264347078, 604807628, 770255983, 1249150122, 1555081692, 1996064986, 2554220882, 2821834349, 2952996808, 3210313671, 3336571891, 3584528711, 113926993, 338241895, 666307205, 773529912, 1294757372, 1396182291, 1695183700, 1986661051, 2177026350, 2456956037, 2730485921, 2820302411, 3259730800, 3345764771, 3516065817, 3600352804, 4094571909, 275423344, 430227734, 506948616, 659060556, 883997877, 958139571, 1322822218, 1537002063, 1747873779, 1955562222, 2024104815, 2227730452, 2361852424, 2428436474, 2756734187, 3204031479, 3329325298]

/-- The package's variables lie in memory as the text lays them. -/
structure Vars (w : World) : Prop where
  first : ∃ ty fr, w.heap[1]? = some (.cells (wC firstL) ty fr)
  turn : ∃ ty fr, w.heap[2]? = some (.cells (wC turnK) ty fr)
theorem Vars.kept {S : List Nat} {w w' : World} (h : Vars w) (k : Kept S w w') (h0 : 1 ∉ S) (h1 : 2 ∉ S) : Vars w' :=
  ⟨by obtain ⟨ty, fr, h⟩ := h.first; exact ⟨ty, fr, k.heap h h0⟩, by obtain ⟨ty, fr, h⟩ := h.turn; exact ⟨ty, fr, k.heap h h1⟩⟩

/-- A Hash as cells. -/
def hashC (ws blk : List Int) (f len : Int) : Array Value := wC ws ++ (blk.map (Value.int .u8)).toArray ++ #[.int .i64 f, .int .u64 len]

theorem hashC_word {ws blk : List Int} {f len : Int} (hw : ws.length = 8) {j : Nat} (h : j < 8) : (hashC ws blk f len)[j]? = some (.int .u32 (at0 ws j)) := by
  unfold hashC
  rw [Array.getElem?_append_left (by simp [wC]; omega), Array.getElem?_append_left (by simp [wC]; omega)]
  exact wC_get (by omega)
theorem hashC_byte {ws blk : List Int} {f len : Int} (hw : ws.length = 8) (hb : blk.length = 64) {j : Nat} (h : j < 64) : (hashC ws blk f len)[8 + j]? = some (.int .u8 (at0 blk j)) := by
  unfold hashC
  rw [Array.getElem?_append_left (by simp [wC]; omega), Array.getElem?_append_right (by simp [wC]; omega)]
  simp [wC, hw, at0, List.getElem?_eq_getElem (show j < blk.length by omega)]
theorem hashC_filled {ws blk : List Int} {f len : Int} (hw : ws.length = 8) (hb : blk.length = 64) : (hashC ws blk f len)[72]? = some (.int .i64 f) := by
  unfold hashC
  rw [Array.getElem?_append_right (by simp [wC]; omega)]
  simp [wC, hw, hb]
theorem hashC_len {ws blk : List Int} {f len : Int} (hw : ws.length = 8) (hb : blk.length = 64) : (hashC ws blk f len)[73]? = some (.int .u64 len) := by
  unfold hashC
  rw [Array.getElem?_append_right (by simp [wC]; omega)]
  simp [wC, hw, hb]
theorem hashC_size {ws blk : List Int} {f len : Int} (hw : ws.length = 8) (hb : blk.length = 64) : (hashC ws blk f len).size = 74 := by
  simp [hashC, wC, hw, hb]
theorem hashC_putWord {ws blk : List Int} {f len : Int} (hw : ws.length = 8) {j : Nat} (h : j < 8) (x : Int) : (hashC ws blk f len).setIfInBounds j (.int .u32 x) = hashC (ws.set j x) blk f len := by
  unfold hashC
  rw [Array.setIfInBounds_append_left (by simp [wC]; omega), Array.setIfInBounds_append_left (by simp [wC]; omega)]
  simp [wC, List.map_set]

/-- A Hash in memory. -/
structure HashAt (w : World) (b : Nat) (ws blk : List Int) (f len : Int) : Prop where
  cells : w.heap[b]? = some (.cells (hashC ws blk f len) 95 (0, 0))
  words : ws.length = 8
  bytes : blk.length = 64
  octs : Octs blk
theorem HashAt.word {w : World} {b : Nat} {ws blk : List Int} {f len : Int} (h : HashAt w b ws blk f len) {j : Nat} (hj : j < 8) : w.cell? ⟨b, j, none⟩ = some (.int .u32 (at0 ws j)) := by
  rw [cell_of_row _ _ _ _ _ _ h.cells]; exact hashC_word h.words hj
theorem HashAt.byte {w : World} {b : Nat} {ws blk : List Int} {f len : Int} (h : HashAt w b ws blk f len) {j : Nat} (hj : j < 64) : w.cell? ⟨b, 8 + j, none⟩ = some (.int .u8 (at0 blk j)) := by
  rw [cell_of_row _ _ _ _ _ _ h.cells]; exact hashC_byte h.words h.bytes hj
theorem HashAt.filled {w : World} {b : Nat} {ws blk : List Int} {f len : Int} (h : HashAt w b ws blk f len) : w.cell? ⟨b, 72, none⟩ = some (.int .i64 f) := by
  rw [cell_of_row _ _ _ _ _ _ h.cells]; exact hashC_filled h.words h.bytes
theorem HashAt.length {w : World} {b : Nat} {ws blk : List Int} {f len : Int} (h : HashAt w b ws blk f len) : w.cell? ⟨b, 73, none⟩ = some (.int .u64 len) := by
  rw [cell_of_row _ _ _ _ _ _ h.cells]; exact hashC_len h.words h.bytes
theorem HashAt.free {w : World} {b : Nat} {ws blk : List Int} {f len : Int} (h : HashAt w b ws blk f len) (j : Nat) : w.frozen? ⟨b, j, none⟩ = false := frozen_of_row w b j _ _ h.cells
theorem HashAt.kept {S : List Nat} {w w' : World} {b : Nat} {ws blk : List Int} {f len : Int} (h : HashAt w b ws blk f len) (k : Kept S w w') (hn : b ∉ S) : HashAt w' b ws blk f len :=
  ⟨k.heap h.cells hn, h.words, h.bytes, h.octs⟩
theorem HashAt.drew {w : World} {b : Nat} {ws blk : List Int} {f len : Int} (h : HashAt w b ws blk f len) : HashAt w.drew b ws blk f len := ⟨h.cells, h.words, h.bytes, h.octs⟩
theorem HashAt.drewN {w : World} {b : Nat} {ws blk : List Int} {f len : Int} (h : HashAt w b ws blk f len) (n : Nat) : HashAt (w.drewN n) b ws blk f len := ⟨h.cells, h.words, h.bytes, h.octs⟩
theorem HashAt.putWord {w : World} {b : Nat} {ws blk : List Int} {f len : Int} (h : HashAt w b ws blk f len) {j : Nat} (hj : j < 8) (x : Int) : HashAt (w.setCell ⟨b, j, none⟩ (.int .u32 x)) b (ws.set j x) blk f len :=
  ⟨by rw [heap_setCell_same _ _ _ _ _ _ h.cells, hashC_putWord h.words hj], by simpa using h.words, h.bytes, h.octs⟩

/-- One turn; all of them; the words behind a block. -/
def turnL (ws : List Int) (s : Eight) (t : Nat) : Eight :=
  let p := (s.h + bits .xor .u32 (bits .xor .u32 (rotL s.e 6) (rotL s.e 11)) (rotL s.e 25) + bits .xor .u32 (bits .and .u32 s.e s.f) (bits .and .u32 (bits .xor .u32 4294967295 s.e) s.g) + at0 turnK t + at0 ws t) % 4294967296
  let q := (bits .xor .u32 (bits .xor .u32 (rotL s.a 2) (rotL s.a 13)) (rotL s.a 22) + bits .xor .u32 (bits .xor .u32 (bits .and .u32 s.a s.b) (bits .and .u32 s.a s.c)) (bits .and .u32 s.b s.c)) % 4294967296
  ⟨(p + q) % 4294967296, s.a, s.b, s.c, (s.d + p) % 4294967296, s.e, s.f, s.g⟩
def turnsL (ws : List Int) (s : Eight) (k : Nat) : Eight := (List.range k).foldl (turnL ws) s
theorem turnsL_zero (ws : List Int) (s : Eight) : turnsL ws s 0 = s := rfl
theorem turnsL_succ (ws : List Int) (s : Eight) (k : Nat) : turnsL ws s (k + 1) = turnL ws (turnsL ws s k) k := by
  unfold turnsL; rw [List.range_succ, List.foldl_append]; rfl

theorem turnL_mk (S : List Int) (a b c d e f g h : Int) (k : Nat) (z y : Int) (hz : z = at0 turnK k) (hy : y = at0 S k) : turnL S ⟨a, b, c, d, e, f, g, h⟩ k =
    ⟨((h + bits .xor .u32 (bits .xor .u32 (rotL e 6) (rotL e 11)) (rotL e 25) + bits .xor .u32 (bits .and .u32 e f) (bits .and .u32 (bits .xor .u32 (if IntKind.u32.signed = true then -1 else IntKind.u32.max) e) g) + z + y) % 4294967296 + (bits .xor .u32 (bits .xor .u32 (rotL a 2) (rotL a 13)) (rotL a 22) + bits .xor .u32 (bits .xor .u32 (bits .and .u32 a b) (bits .and .u32 a c)) (bits .and .u32 b c)) % 4294967296) % 4294967296, a, b, c,
      (d + (h + bits .xor .u32 (bits .xor .u32 (rotL e 6) (rotL e 11)) (rotL e 25) + bits .xor .u32 (bits .and .u32 e f) (bits .and .u32 (bits .xor .u32 (if IntKind.u32.signed = true then -1 else IntKind.u32.max) e) g) + z + y) % 4294967296) % 4294967296, e, f, g⟩ := by
  subst hz hy
  have e1 : (if IntKind.u32.signed = true then -1 else IntKind.u32.max) = 4294967295 := by decide
  rw [e1]
  rfl

/-- The letters of eight words; the words of eight letters; the words with others added. -/
def eightOf (ws : List Int) : Eight := ⟨at0 ws 0, at0 ws 1, at0 ws 2, at0 ws 3, at0 ws 4, at0 ws 5, at0 ws 6, at0 ws 7⟩
def eightL (s : Eight) : List Int := [s.a, s.b, s.c, s.d, s.e, s.f, s.g, s.h]
def addL (ws vs : List Int) (k : Nat) : List Int := (List.range k).foldl (fun l i => l.set i ((at0 l i + at0 vs i) % 4294967296)) ws
theorem addL_zero (ws vs : List Int) : addL ws vs 0 = ws := rfl
theorem addL_succ (ws vs : List Int) (k : Nat) : addL ws vs (k + 1) = (addL ws vs k).set k ((at0 (addL ws vs k) k + at0 vs k) % 4294967296) := by
  unfold addL; rw [List.range_succ, List.foldl_append]; rfl
def mixL (ws blk : List Int) : List Int := addL ws (eightL (turnsL (stretchL blk 48) (eightOf ws) 64)) 8

set_option maxRecDepth 100000 in
theorem eight_index (s : Eight) (k : Nat) (h : k < 8) (W : World) : (Instr.index 92 (.agg #[.int .u32 s.a, .int .u32 s.b, .int .u32 s.c, .int .u32 s.d, .int .u32 s.e, .int .u32 s.f, .int .u32 s.g, .int .u32 s.h]) (.int .i64 k)).run Tryd.prog W = .ok (.int .u32 (at0 (eightL s) k)) W := by
  obtain ⟨a, b, c, d, e, f, g, h'⟩ := s
  have hk : k = 0 ∨ k = 1 ∨ k = 2 ∨ k = 3 ∨ k = 4 ∨ k = 5 ∨ k = 6 ∨ k = 7 := by omega
  rcases hk with rfl | rfl | rfl | rfl | rfl | rfl | rfl | rfl <;> rfl

set_option maxRecDepth 100000 in
set_option maxHeartbeats 4000000 in
theorem mix_any (w : World) (b : Nat) (ws blk : List Int) (f len : Int) (hV : Vars w) (hH : HashAt w b ws blk f len) :
    Calls Tryd.prog 68 #[.pointer (some ⟨b, 0, none⟩)] w fun e w' => e = .returned (.tuple #[]) ∧ HashAt w' b (mixL ws blk) blk f len ∧ Kept [b] w w' := by
  have HS := stretched_any blk w b hH.octs (fun i hi => hH.byte hi)
  obtain ⟨cs, hcs⟩ : ∃ cs, cs = wC (stretchL blk 48) := ⟨_, rfl⟩
  have HCS : Hid (cs = wC (stretchL blk 48)) := hcs
  have hsz : (Tryd.prog.info? 134).map (·.size) = some cs.size := by rw [hcs, wC_size, stretchL_len]; exact Tryd.infoW64
  have hall : cs.all (·.oneCell') = true := by rw [hcs]; exact all_oneCell_toArray (ints_oneCell .u32 _)
  have h64 : cs.size = 64 := by rw [hcs, wC_size, stretchL_len]
  rw [← hcs] at HS
  clear hcs
  go_enter Tryd.func68, Tryd.ntmps68
  go_wp2_with (first
    | (go_at_call 86; refine HS.mono ?_; rintro e w1 ⟨rfl, hk1⟩
       have HH1 : Hid (HashAt w1 b ws blk f len) := hH.kept hk1 (by simp)
       have HV1 : Hid (Vars w1) := hV.kept hk1 (by simp) (by simp)
       have HK1 : Hid (Kept [b] w w1) := hk1.more (by simp)
       clear hk1 hH hV HS)
    | (refine wpList_store_row (by rfl) 134 (.tmp 2) (.tmp 19) (by rfl) w1.heap.size cs (by rfl) (by rfl) 134 _ (heap_alloc_new w1 _) hsz ?hs hall ?_; (case hs => exact h64.symm); rw [World.setRow_alloc_new]
       have HW2 : Hid ((w1.alloc (.cells cs 134)).heap[w1.heap.size]? = some (.cells cs 134 (0, 0))) := heap_alloc_new w1 _
       have HK2 : Hid (Kept [b] w (w1.alloc (.cells cs 134))) := HK1.out.alloc _
       have HH2 : Hid (HashAt (w1.alloc (.cells cs 134)) b ws blk f len) := HH1.out.kept ((Kept.refl [] _).alloc _) (by simp)
       have HV2 : Hid (Vars (w1.alloc (.cells cs 134))) := HV1.out.kept ((Kept.refl [] _).alloc _) (by simp) (by simp)
       have hne : b < w1.heap.size := lt_of_block HH1.out.cells
       generalize w1.alloc (.cells cs 134) = w2 at *
       generalize w1.heap.size = g at *
       have c0 := HH2.out.word (j := 0) (by decide)
       have c1 := HH2.out.word (j := 1) (by decide)
       have c2 := HH2.out.word (j := 2) (by decide)
       have c3 := HH2.out.word (j := 3) (by decide)
       have c4 := HH2.out.word (j := 4) (by decide)
       have c5 := HH2.out.word (j := 5) (by decide)
       have c6 := HH2.out.word (j := 6) (by decide)
       have c7 := HH2.out.word (j := 7) (by decide)))
  go_quiet (fail)
  go_wp2
  go_quiet (fail)
  go_wp2
  obtain ⟨s0, hs0⟩ : ∃ s0 : Eight, s0 = ⟨at0 ws 0, at0 ws 1, at0 ws 2, at0 ws 3, at0 ws 4, at0 ws 5, at0 ws 6, at0 ws 7⟩ := ⟨_, rfl⟩
  have HS0 : Hid (s0 = ⟨at0 ws 0, at0 ws 1, at0 ws 2, at0 ws 3, at0 ws 4, at0 ws 5, at0 ws 6, at0 ws 7⟩) := hs0
  clear hs0 c0 c1 c2 c3 c4 c5 c6 c7
  go_loopw [3, 4, 5, 6, 7, 8, 9, 10, 60] (fun s3 s4 s5 s6 s7 s8 s9 s10 c wr => ∃ k : Nat, k ≤ 64 ∧ c = .int .i64 k ∧ s3 = .int .u32 (turnsL (stretchL blk 48) s0 k).a ∧ s4 = .int .u32 (turnsL (stretchL blk 48) s0 k).b ∧ s5 = .int .u32 (turnsL (stretchL blk 48) s0 k).c ∧ s6 = .int .u32 (turnsL (stretchL blk 48) s0 k).d ∧ s7 = .int .u32 (turnsL (stretchL blk 48) s0 k).e ∧ s8 = .int .u32 (turnsL (stretchL blk 48) s0 k).f ∧ s9 = .int .u32 (turnsL (stretchL blk 48) s0 k).g ∧ s10 = .int .u32 (turnsL (stretchL blk 48) s0 k).h ∧ Kept [] w2 wr) (fun _ _ _ _ _ _ _ _ c _ => 64 - (intOf c).toNat)
  case atStart =>
    refine ⟨0, Nat.zero_le _, rfl, ?_, ?_, ?_, ?_, ?_, ?_, ?_, ?_, ((Kept.refl _ _).drewN _).drewN _⟩ <;> rw [turnsL_zero, HS0.out]
  case round =>
    obtain ⟨k, hk, rfl, rfl, rfl, rfl, rfl, rfl, rfl, rfl, rfl, hkw⟩ := hrel
    by_cases hlt : k < 64
    · have cK : wr.cell? ⟨2, k, none⟩ = some (.int .u32 (at0 turnK k)) := by
        obtain ⟨ty, fr, h⟩ := (HV2.out.kept hkw (by simp) (by simp)).turn
        exact wC_cell h hlt
      have cW : wr.cell? ⟨g, k, none⟩ = some (.int .u32 (at0 (stretchL blk 48) k)) := by
        have h := hkw.heap HW2.out (by simp)
        rw [HCS.out] at h
        exact wC_cell h (by rw [stretchL_len]; exact hlt)
      have HN : Hid (turnsL (stretchL blk 48) s0 (k + 1) = turnL (stretchL blk 48) (turnsL (stretchL blk 48) s0 k) k) := turnsL_succ _ _ _
      generalize stretchL blk 48 = S at *
      generalize turnsL S s0 k = s at *
      rcases s with ⟨xa, xb, xc, xd, xe, xf, xg, xh⟩
      obtain ⟨y, hy⟩ : ∃ y, y = at0 S k := ⟨_, rfl⟩
      obtain ⟨z, hz⟩ : ∃ z, z = at0 turnK k := ⟨_, rfl⟩
      rw [← hz] at cK
      rw [← hy] at cW
      have HY : Hid (y = at0 S k) := hy
      have HZ : Hid (z = at0 turnK k) := hz
      clear hy hz
      go_wp2
      have q6 := fun W => rightq6 xe W
      have q11 := fun W => rightq11 xe W
      have q25 := fun W => rightq25 xe W
      go_quiet (first
        | (go_at_call_of 87 (Value.int .i64 6); refine Calls.quiet_of_same (q6 _))
        | (go_at_call_of 87 (Value.int .i64 11); refine Calls.quiet_of_same (q11 _))
        | (go_at_call_of 87 (Value.int .i64 25); refine Calls.quiet_of_same (q25 _)))
      clear q6 q11 q25
      go_wp2_with (first
        | (go_at_call 87; with_reducible refine (right2 _ _).mono ?_; rintro e w3 ⟨rfl, rfl⟩)
        | (go_at_call 87; with_reducible refine (right13 _ _).mono ?_; rintro e w3 ⟨rfl, rfl⟩)
        | (go_at_call 87; with_reducible refine (right22 _ _).mono ?_; rintro e w3 ⟨rfl, rfl⟩))
      go_roundw
      case rel =>
        refine ⟨k + 1, by omega, by go_num, ?_, ?_, ?_, ?_, ?_, ?_, ?_, ?_, hkw.drewN _⟩ <;> rw [HN.out, turnL_mk _ _ _ _ _ _ _ _ _ _ z y HZ.out HY.out]
      case measure => simp [intOf]; omega
    · obtain rfl : k = 64 := by omega
      rw [show ((64 : Nat) : Int) = 64 from rfl]
      have HM : Hid (mixL ws blk = addL ws (eightL (turnsL (stretchL blk 48) s0 64)) 8) := by rw [HS0.out]; rfl
      have HX := eight_index (turnsL (stretchL blk 48) s0 64)
      have HX : Hid _ := HX
      generalize turnsL (stretchL blk 48) s0 64 = s at *
      have hK3 : Kept [b] w wr := HK2.out.trans hkw (by simp)
      have hH3 := HH2.out.kept hkw (by simp)
      generalize eightL s = vs at *
      go_wp2
      go_loopw [132] (fun c wq => ∃ k : Nat, k ≤ 8 ∧ c = .int .i64 k ∧ HashAt wq b (addL ws vs k) blk f len ∧ Kept [b] w wq) (fun c _ => 8 - (intOf c).toNat)
      case atStart => exact ⟨0, Nat.zero_le _, rfl, by rw [addL_zero]; exact hH3, hK3⟩
      case round =>
        obtain ⟨k, hk, rfl, hH4, hK4⟩ := hrel
        by_cases hlt : k < 8
        · have hix := HX.out k hlt
          have c0 := hH4.word hlt
          have f0 := hH4.free k
          have HN : Hid (addL ws vs (k + 1) = (addL ws vs k).set k ((at0 (addL ws vs k) k + at0 vs k) % 4294967296)) := addL_succ _ _ _
          have HP : Hid (∀ x, HashAt (wr.setCell ⟨b, k, none⟩ (.int .u32 x)) b ((addL ws vs k).set k x) blk f len) := fun x => hH4.putWord hlt x
          have HH4 : Hid _ := hH4
          clear hH4 hH3
          generalize at0 (addL ws vs k) k = z at *
          go_wp2
          go_region
          go_wp2
          go_roundw
          case rel =>
            refine ⟨k + 1, by omega, by go_num, ?_, ?_⟩
            · rw [HN.out]
              exact (HP.out _).drew
            · exact (hK4.setCell (Or.inl (by simp)) _).drew
          case measure => simp [intOf]; omega
        · obtain rfl : k = 8 := by omega
          rw [show ((8 : Nat) : Int) = 8 from rfl]
          have HH4 : Hid _ := hH4
          clear hH4
          go_wp2
          go_end0
          exact ⟨rfl, by rw [HM.out]; exact HH4.out, hK4⟩
end Go.Proofs.YtlljiipmkjjhhaaDoor
