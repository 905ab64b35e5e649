/-
  WALKS: satchellaw1.read: a Reader over a list and the document's own over the same bytes answer every step alike.
-/
import Derived.Test.YtkhcofdcokngkaaReads
import Derived.BigQuiet
import Derived.Deep.QuietTactic
namespace Go.Proofs.Ytkhcofdcokngkaa
open Go.RowKit

/-- An Eye that was just made over a new copy. -/
theorem eye_new {w : World} {g : Nat} {xs : List Int} (hr : w.heap[g]? = some (.cells (xs.map (Value.int .u8)).toArray 5 (0, 0))) (hs : xs.length ≤ 140737488355328) (ho : Octs xs) :
    EyeAt (w.alloc (.cells #[.slice (some ⟨g, 0, none⟩) xs.length xs.length, .int .i64 0, .int .i64 0] 58)) w.heap.size g xs 0 0 := by
  have hlt := lt_of_block hr
  exact ⟨heap_alloc_new w _, (Below.heap_alloc w _ _ hlt).trans hr, by omega, Nat.zero_le _, hs, ho, by decide⟩

set_option maxRecDepth 100000 in
set_option maxHeartbeats 2000000 in
theorem read_any (w : World) (vi vb : Value) (ao2 : Option Addr) (c2 : Nat) (xs : List Int) (ops : List COp) (hi : BytesAt w vi xs) (hb : BytesAt w vb xs) (ho : Octs xs) (hs : xs.length ≤ 140737488351232)
    (hops : OpsAt w (.slice ao2 ops.length c2) ops) (hg : ∀ o, o ∈ ops → COp.Good o w) :
    Calls Try.prog 32 #[vi, vb, .slice ao2 ops.length c2] w fun e w' => e = .returned (.bool true) ∧ Kept [] w w' := by
  obtain ⟨ao, cap, hv, hl, hc⟩ := hops
  simp only [Value.slice.injEq] at hv
  obtain ⟨rfl, _, rfl⟩ := hv
  have hread := Read_any vi xs w hi (by omega) ho
  have HC : Hid (∀ w1, Kept [] w w1 → Calls Try.prog 16 #[vb] w1 fun e w' => e = .returned (.slice (some ⟨w1.heap.size, 0, none⟩) xs.length xs.length) ∧
      w'.heap[w1.heap.size]? = some (.cells (xs.map (Value.int .u8)).toArray 5 (0, 0)) ∧ Kept [] w1 w') := fun w1 hk => Copy_any vb xs w1 (hb.kept hk (fun _ _ => by simp)) (by omega)
  have HE : Hid (∀ (w2 : World) (g : Nat), w2.heap[g]? = some (.cells (xs.map (Value.int .u8)).toArray 5 (0, 0)) → EyeAt (w2.alloc (.cells #[.slice (some ⟨g, 0, none⟩) xs.length xs.length, .int .i64 0, .int .i64 0] 58)) w2.heap.size g xs 0 0) :=
    fun w2 g hr => eye_new hr (by omega) ho
  obtain ⟨ab, cb, rfl, _⟩ := hb
  clear hi
  go_enter Try.func32, Try.ntmps32
  go_wp2_with (first
    | (go_at_call 15; refine hread.mono ?_; rintro e w1 ⟨r, gr, rfl, R, hk1, hr, hgr⟩; have HR : Hid _ := R; clear R)
    | (go_at_call 16; refine (HC.out _ hk1).mono ?_; rintro e w2 ⟨rfl, hq, hk2⟩; have HQ : Hid _ := hq; clear hq))
  have HP : Hid (Pair (w2.alloc (.cells #[.slice (some ⟨w1.heap.size, 0, none⟩) xs.length xs.length, .int .i64 0, .int .i64 0] 58)) r gr w2.heap.size w1.heap.size xs 0 0) := by
    have l1 := lt_of_block HR.out.blk
    have l2 := lt_of_block HR.out.row
    have l3 := hk2.size
    exact ⟨HR.out.kept (S := []) (hk2.alloc _) (by simp) (by simp), HE.out _ _ HQ.out, by omega, by omega, by omega⟩
  have KW : Kept [] w (w2.alloc (.cells #[.slice (some ⟨w1.heap.size, 0, none⟩) xs.length xs.length, .int .i64 0, .int .i64 0] 58)) := (hk1.then hk2).alloc _
  have hsz : w.heap.size ≤ w2.heap.size := (hk1.then hk2).size
  generalize w2.alloc (.cells #[.slice (some ⟨w1.heap.size, 0, none⟩) xs.length xs.length, .int .i64 0, .int .i64 0] 58) = w3 at *
  generalize w2.heap.size = b at *
  generalize w1.heap.size = gb at *
  clear HR HQ HE HC hread hk1 hk2
  go_loopw [9] (fun i wr => ∃ k : Nat, k ≤ ops.length ∧ i = .int .i64 k ∧ Hid (∃ pl f, Pair wr r gr b gb xs pl f) ∧ Kept [] w wr) (fun i _ => ops.length - (intOf i).toNat)
  case atStart => exact ⟨0, Nat.zero_le _, rfl, ⟨_, _, HP.out⟩, KW⟩
  case round =>
    clear HP KW
    obtain ⟨k, hkk, rfl, HP, KW⟩ := hrel
    by_cases hgo : k < ops.length ∧ k < 400
    · obtain ⟨hlt, h400⟩ := hgo
      obtain ⟨b2, off2, rfl, hops⟩ := hc (by rintro rfl; simp at hlt)
      obtain ⟨o, hko⟩ : ∃ o, ops[k]? = some o := ⟨_, List.getElem?_eq_getElem hlt⟩
      have hgo := hg o (List.mem_of_getElem? hko)
      obtain ⟨q0, q1, q2, q3, q4⟩ := hops k o hko
      replace q0 := KW.cell q0 (by simp)
      replace q1 := KW.cell q1 (by simp)
      replace q2 := KW.cell q2 (by simp)
      replace q3 := KW.cell q3 (by simp)
      replace q4 := KW.cell q4 (by simp)
      have hrd : Calls Try.prog 25 #[.pointer (some ⟨r, 0, none⟩), .pointer (some ⟨b, 0, none⟩), .agg #[.int .i64 o.kind, .int .i64 o.which, .int .i64 o.m, .int .u64 o.n, .slice o.ao o.b.length o.cap]] wr fun e w' => ReadsTo wr w' r gr b gb xs e := by
        obtain ⟨pl, f, P⟩ := HP.out
        exact reads_any P _ _ _ _ _ _ _ hgo.m0 hgo.m1 hgo.n1
      clear hko hgo hops hg HP hc
      go_wp2_with (go_at_call 25; refine hrd.mono ?_; rintro e w4 ⟨⟨res, rfl, rfl⟩, hp4, hk4⟩; have HP4 : Hid _ := hp4; clear hp4)
      go_roundw
      case rel => exact ⟨k + 1, by omega, by go_num, HP4, KW.trans hk4 (by simp; omega)⟩
      case measure => simp [intOf]; omega
    · obtain ⟨pl, f, P⟩ := HP.out
      obtain ⟨d0, d1, d2, d3, d4⟩ := P.eye.facts
      have hat := fun n => At_any (P.box ((Kept.refl _ _).drewN n)).rd
      have hleft := fun n => Left_any (P.box ((Kept.refl _ _).drewN n)).rd
      have hend := fun n => End_any (P.box ((Kept.refl _ _).drewN n)).rd P.eye.bad
      have hee := fun n => EEnd_any (P.eye.drewN n)
      have hle := P.eye.le
      clear P HP hc hg
      generalize (if f ≠ 0 then errL f else if pl < xs.length then 13 else 0) = z at *
      by_cases hlt : k < ops.length
      · have h4 : ¬ k < 400 := fun h => hgo ⟨hlt, h⟩
        clear hgo
        go_wp2
        go_quiet (first
          | (go_at_call 26; refine Calls.quiet_of_same (hat _))
          | (go_at_call 20; refine Calls.quiet_of (hleft _))
          | (go_at_call 29; refine Calls.quiet_of (hend _))
          | (go_at_call 27; refine Calls.quiet_of_same (num_any _ _))
          | (go_at_call 30; refine Calls.quiet_of (hee _)))
        go_wp2
        go_ret
        exact ⟨by simp, KW.drewN _⟩
      · clear hgo
        go_wp2
        go_quiet (first
          | (go_at_call 26; refine Calls.quiet_of_same (hat _))
          | (go_at_call 20; refine Calls.quiet_of (hleft _))
          | (go_at_call 29; refine Calls.quiet_of (hend _))
          | (go_at_call 27; refine Calls.quiet_of_same (num_any _ _))
          | (go_at_call 30; refine Calls.quiet_of (hee _)))
        go_wp2
        go_ret
        exact ⟨by simp, KW.drewN _⟩
end Go.Proofs.Ytkhcofdcokngkaa
