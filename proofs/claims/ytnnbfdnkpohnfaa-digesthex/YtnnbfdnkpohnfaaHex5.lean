/-
  WALKS: satchellaw2.DigestHex, for every text and id.
-/
import Derived.Test.YtnnbfdnkpohnfaaHex4
namespace Go.Proofs.Ytnnbfdnkpohnfaa
open Go.RowKit

set_option maxRecDepth 100000 in
set_option maxHeartbeats 4000000 in
theorem digestHex_any (w : World) (ao : Option Addr) (c : Nat) (xs bs : List Int) (hx : BytesAt w (.slice ao xs.length c) xs) (hox : Octs xs) (hsx : xs.length ≤ 140737488351232) (hl : bs.length = 32) (ho : Octs bs) :
    Calls Try.prog 6 #[.agg (#[.slice ao xs.length c] ++ idC bs)] w fun e w' => e = .returned (.bool true) ∧ Kept [] w w' := by
  have hsz : (Try.prog.info? 79).map (·.size) = some (idC bs).size := by rw [idC_size hl]; exact Try.infoID
  have HR : Hid (∀ W : World, W.heap[w.heap.size]? = some (.cells (#[.slice ao xs.length c] ++ idC bs) 81 (0, 0)) → W.rangeAt w.heap.size 1 (bs.map (Value.int .u8)) ∧ W.cell? ⟨w.heap.size, 0, none⟩ = some (.slice ao xs.length c)) := by
    intro W hW
    refine ⟨fun j v hv => ?_, ?_⟩
    · rw [cell_of_row _ _ _ _ _ _ hW, Array.getElem?_append_right (by simp), ← Array.getElem?_toList]
      simpa [idC] using hv
    · rw [cell_of_row _ _ _ _ _ _ hW, Array.getElem?_append_left (by simp)]
      rfl
  have HB : Hid ((w.alloc (.cells (#[.slice ao xs.length c] ++ idC bs) 81)).heap[w.heap.size]? = some (.cells (#[.slice ao xs.length c] ++ idC bs) 81 (0, 0))) := heap_alloc_new w _
  have hmid : (Try.prog.info? 79).map (·.size) = some (bs.map (Value.int .u8)).length := by rw [List.length_map, hl]; exact Try.infoID
  have hhex := fun W => Hex_any bs W hl ho
  have hoh : Octs (hexL bs) := fun u hu => (hexL_mem bs ho u hu).2
  have hpar : ∀ W, Calls Try.prog 30 #[.string (strOfNums (hexL bs))] W fun e w' => Kept [] W w' ∧ e = .returned (.tuple #[.agg (idC bs), .int .i64 0]) := fun W =>
    (Parse_any (hexL bs) W hoh).mono fun e w' h => ⟨h.1, by
      have := h.2.1 ⟨hexL_len bs, fun c hc => (hexL_mem bs ho c hc).1⟩
      rwa [hexL_len, beg_hex bs hl ho] at this⟩
  have HI : Hid (∀ k : Nat, k < 64 → (∀ W, (Instr.index 9 (.string (strOfNums (hexL bs))) (.int .i64 k)).run Try.prog W = .ok (.int .u8 ((hexL bs)[k]?.getD 0)) W) ∧ ∀ W, Calls Try.prog 32 #[.int .u8 ((hexL bs)[k]?.getD 0)] W fun e w' => e = .returned (.bool true) ∧ w' = W) := by
    intro k hk
    refine ⟨fun W => str_index _ hoh k (by rw [hexL_len]; exact hk) W, fun W => ?_⟩
    have hm := hexL_mem bs ho ((hexL bs)[k]?.getD 0) (by
      rw [List.getElem?_eq_getElem (show k < (hexL bs).length by rw [hexL_len]; exact hk)]
      exact List.getElem_mem _)
    have := small_any _ W hm.2.1 hm.2.2
    rwa [decide_eq_true hm.1] at this
  have hhs : (strOfNums (hexL bs)).size = 64 := by rw [strOfNums_size, hexL_len]
  have hall : (idC bs).all (·.oneCell') = true := all_oneCell_toArray (map_oneCell _)
  have h32 : (idC bs).size = 32 := idC_size hl
  have hid : (bs.map (Value.int .u8)).toArray = idC bs := rfl
  have heq : ∀ W, (Op.equalIn 10000 79 (.agg (idC bs)) (.agg (idC bs))).run Try.prog W = .ok true W := fun W => by
    rw [idEq bs bs W hl hl, decide_eq_true rfl]
  have HC : Hid (∀ W, Kept [] w W → (convert 22 9 (.slice ao xs.length c)).run Try.prog W = .ok (.string (strOfNums xs)) W) := fun W hk => (hx.kept hk (fun _ _ => by simp)).conv
  have HJ : Hid (∀ k : Nat, k < xs.length → (∀ W, (Instr.index 9 (.string (strOfNums xs)) (.int .i64 k)).run Try.prog W = .ok (.int .u8 (xs[k]?.getD 0)) W) ∧ ∀ W, Calls Try.prog 32 #[.int .u8 (xs[k]?.getD 0)] W fun e w' => e = .returned (.bool (decide (isDigit (xs[k]?.getD 0)))) ∧ w' = W) := by
    intro k hk
    have hz := octs_getD hox k
    exact ⟨fun W => str_index _ hox k hk W, fun W => small_any _ W hz.1 hz.2⟩
  have HP := parse_any xs hox
  have HP : Hid _ := HP
  have hss := strOfNums_size xs
  clear hx
  generalize hcs0 : (#[.slice ao xs.length c] : Array Value) ++ idC bs = cs0 at *
  clear hcs0
  have hr0 := (HR.out _ HB.out).1
  generalize strOfNums (hexL bs) = hs at *
  generalize hexL bs = hd at *
  generalize hic : idC bs = ic at *
  clear hic
  generalize strOfNums xs = ss at *
  go_enter Try.func6, Try.ntmps6
  go_wp2_with (first
    | (refine wpList_load_mid (by rfl) 79 (.tmp 12) (by rfl) w.heap.size 1 (by rfl) (bs.map (Value.int .u8)) _ hr0 Try.underlying79 rfl hmid ?_; rw [hid])
    | (go_at_call 29; refine (hhex _).mono ?_; rintro e w1 ⟨rfl, hk1⟩; have HB1 : Hid _ := hk1.heap HB.out (by simp); have HK1 : Hid (Kept [] w w1) := ((Kept.refl [] w).alloc _).then hk1; clear hk1)
    | (go_at_call 30; refine (hpar _).mono ?_; rintro e w2 ⟨hk2, rfl⟩; have HB2 : Hid (w2.heap[w.heap.size]? = some (.cells cs0 81 (0, 0))) := hk2.heap HB1.out (by simp); have HK2 : Hid (Kept [] w w2) := HK1.out.then hk2; clear hk2)
    | (refine wpList_store_row (by rfl) 79 (.tmp 4) (.tmp 18) (by rfl) w2.heap.size ic (by rfl) (by rfl) 79 _ (heap_alloc_new w2 _) hsz h32.symm hall ?_; rw [World.setRow_alloc_new]
       have HB3 : Hid ((w2.alloc (.cells ic 79)).heap[w.heap.size]? = some (.cells cs0 81 (0, 0))) := (Below.heap_alloc _ _ _ (lt_of_block HB2.out)).trans HB2.out
       have hr3 := (HR.out _ HB3.out).1)
    | (go_at_call 31; refine (num2_any _ _).mono ?_; rintro e w3 ⟨rfl, rfl⟩)
    | (refine wpList_wanted (by rfl) fun K hK => wp_load_row 79 (.tmp 4) (by rfl) w2.heap.size (by rfl) 79 ic (0, 0) _ (heap_alloc_new w2 _) Try.underlying79 rfl hsz (hK _ _ ?_))
    | (refine wpList_wanted (by rfl) fun K hK => wp_load_mid 79 (.tmp 25) (by rfl) w.heap.size 1 (by rfl) (bs.map (Value.int .u8)) _ hr3 Try.underlying79 rfl hmid (hK _ _ ?_); rw [hid]))
  go_loopw [6] (fun i wr => ∃ k : Nat, k ≤ 64 ∧ i = .int .i64 k ∧ Hid (wr.heap[w.heap.size]? = some (.cells cs0 81 (0, 0))) ∧ Kept [] w wr) (fun i _ => 64 - (intOf i).toNat)
  case atStart => exact ⟨0, Nat.zero_le _, rfl, HB3, HK2.out.alloc _⟩
  case round =>
    obtain ⟨k, hk, rfl, HB4, hkw⟩ := hrel
    by_cases hlt : k < 64
    · obtain ⟨hix, hsm⟩ := HI.out k hlt
      generalize hd[k]?.getD 0 = z at *
      go_wp2_with (go_at_call 32; refine (hsm _).mono ?_; rintro e w4 ⟨rfl, rfl⟩)
      go_roundw
      case rel => exact ⟨k + 1, by omega, by go_num, HB4, hkw⟩
      case measure => simp [intOf]; omega
    · obtain rfl : k = 64 := by omega
      have e64 : ((64 : Nat) : Int) = 64 := rfl
      rw [e64]
      have hc4 := (HR.out _ HB4.out).2
      have hcv := HC.out _ hkw
      go_wp2
      go_loopw [8, 9] (fun s8 s9 wq => ∃ k : Nat, k ≤ xs.length ∧ s9 = .int .i64 k ∧ s8 = .bool (okL xs k) ∧ Kept [] w wq) (fun _ s9 _ => xs.length - (intOf s9).toNat)
      case atStart =>
        refine ⟨0, Nat.zero_le _, rfl, ?_, hkw⟩
        rw [okL_zero]
        congr 1
        by_cases h64 : xs.length = 64
        · rw [h64]; rfl
        · rw [decide_eq_false h64, beq_eq_false_iff_ne]; omega
      case round =>
        obtain ⟨k, hk, rfl, rfl, hkq⟩ := hrel
        by_cases hlt : k < xs.length
        · obtain ⟨hix, hsm⟩ := HJ.out k hlt
          have HS : Hid _ := okL_succ xs k hlt
          generalize xs[k]?.getD 0 = z at *
          rcases hb : okL xs k with _ | _
          · go_wp2
            go_roundw
            case rel => exact ⟨k + 1, by omega, by go_num, by rw [HS.out, hb]; rfl, hkq⟩
            case measure => simp [intOf]; omega
          · go_wp2_with (go_at_call 32; refine (hsm _).mono ?_; rintro e w4 ⟨rfl, rfl⟩)
            go_roundw
            case rel => exact ⟨k + 1, by omega, by go_num, by rw [HS.out, hb, Bool.true_and], hkq⟩
            case measure => simp [intOf]; omega
        · obtain rfl : k = xs.length := by omega
          obtain ⟨ps, pe, hpl, hpc, hpt, hpf⟩ := HP.out
          have hszp : (Try.prog.info? 79).map (·.size) = some (idC ps).size := by rw [idC_size hpl]; exact Try.infoID
          have hallp : (idC ps).all (·.oneCell') = true := all_oneCell_toArray (map_oneCell _)
          have hp32 : (idC ps).size = 32 := idC_size hpl
          have hpq : okL xs xs.length = false → ∀ W, (Op.equalIn 10000 79 (.agg (idC ps)) (.agg (idC zero32))).run Try.prog W = .ok true W := fun h W => by
            rw [(hpf h).2, idEq _ _ W rfl rfl, decide_eq_true rfl]
          rw [← zero_lit] at hpq
          clear hpl
          generalize idC ps = pc at *
          rcases hb : okL xs xs.length with _ | _
          · obtain ⟨rfl, _⟩ := hpf hb
            have heq0 := hpq hb
            clear hpq hpf hpt
            go_wp2_with (first
              | (go_at_call 30; refine (hpc _).mono ?_; rintro e w5 ⟨hk5, rfl⟩; have HK5 : Hid (Kept [] w w5) := hkq.then hk5; clear hk5)
              | (refine wpList_store_row (by rfl) 79 (.tmp 10) (.tmp 65) (by rfl) w5.heap.size pc (by rfl) (by rfl) 79 _ (heap_alloc_new w5 _) hszp hp32.symm hallp ?_; rw [World.setRow_alloc_new])
              | (go_at_call 31; refine (num2_any _ _).mono ?_; rintro e w6 ⟨rfl, rfl⟩)
              | (refine wpList_wanted (by rfl) fun K hK => wp_load_row 79 (.tmp 10) (by rfl) w5.heap.size (by rfl) 79 pc (0, 0) _ (heap_alloc_new w5 _) Try.underlying79 rfl hszp (hK _ _ ?_)))
            go_ret
            exact ⟨rfl, HK5.out.alloc _⟩
          · obtain ⟨rfl, hph⟩ := hpt hb
            clear hpq hpf hpt
            go_wp2_with (first
              | (go_at_call 30; refine (hpc _).mono ?_; rintro e w5 ⟨hk5, rfl⟩; have HK5 : Hid (Kept [] w w5) := hkq.then hk5; clear hk5)
              | (refine wpList_store_row (by rfl) 79 (.tmp 10) (.tmp 65) (by rfl) w5.heap.size pc (by rfl) (by rfl) 79 _ (heap_alloc_new w5 _) hszp hp32.symm hallp ?_; rw [World.setRow_alloc_new])
              | (go_at_call 31; refine (num2_any _ _).mono ?_; rintro e w6 ⟨rfl, rfl⟩)
              | (refine wpList_wanted (by rfl) fun K hK => wp_load_row 79 (.tmp 10) (by rfl) w5.heap.size (by rfl) 79 pc (0, 0) _ (heap_alloc_new w5 _) Try.underlying79 rfl hszp (hK _ _ ?_))
              | (go_at_call 29; refine (hph _).mono ?_; rintro e w7 ⟨rfl, hk7⟩; have HK7 : Hid (Kept [] w w7) := (HK5.out.alloc _).then hk7; clear hk7))
            go_ret
            exact ⟨rfl, HK7.out⟩
end Go.Proofs.Ytnnbfdnkpohnfaa
