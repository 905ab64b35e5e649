/-
  WALKS: delta.pieceOf, (delta.index).find.
  PLAIN MATHEMATICS: a delta is bytes.
-/
import Derived.Test.YtldhbcppnoldiaaMk4
import Derived.Maps.OwnSet
import Derived.DeepKeys4
import Derived.Test.YtldhbcppnoldiaaMk0
namespace Go.Proofs.Ytldhbcppnoldiaa
open Go.RowKit

set_option maxRecDepth 100000 in
set_option maxHeartbeats 2000000 in
theorem pieceOf_any {w : World} {ao : Option Addr} {cap : Nat} {x0 x1 x2 x3 : Int} {r : List Int} {n : Nat} (h : BytesAt w (.slice ao n cap) (x0 :: x1 :: x2 :: x3 :: r)) (hn4 : 4 ≤ n) :
    Calls Try.prog 110 #[.slice ao n cap] w fun e w' => e = .returned (.agg #[.int .u8 x0, .int .u8 x1, .int .u8 x2, .int .u8 x3]) ∧ Kept [] w w' := by
  obtain ⟨_, _, he, _, _, hh⟩ := h
  injection he with e1 e2 e3
  subst e1
  obtain ⟨b, off, rfl, hc⟩ := hh (by simp)
  have HC : Hid (∀ j v, [Value.int .u8 x0, .int .u8 x1, .int .u8 x2, .int .u8 x3][j]? = some v → ((w.alloc (.cells #[.int .u8 0, .int .u8 0, .int .u8 0, .int .u8 0] 171)).alloc (.cells #[.int .u8 0, .int .u8 0, .int .u8 0, .int .u8 0] 171)).cell? ((⟨b, off, none⟩ : Addr).add j) = some v) := by
    intro j v hj
    have hk : ∀ u, (x0 :: x1 :: x2 :: x3 :: r)[j]? = some u → w.cell? ⟨b, off + j, none⟩ = some (.int .u8 u) := fun u hu => hc j u hu
    have kk := ((Kept.refl [] w).alloc (.cells #[.int .u8 0, .int .u8 0, .int .u8 0, .int .u8 0] 171)).alloc (.cells #[.int .u8 0, .int .u8 0, .int .u8 0, .int .u8 0] 171)
    rw [Addr.add_mid]
    refine kk.cell (p := ⟨b, off + j, none⟩) ?_ (by simp)
    match j, hj with
    | 0, hj => simp at hj; subst hj; exact hk x0 rfl
    | 1, hj => simp at hj; subst hj; exact hk x1 rfl
    | 2, hj => simp at hj; subst hj; exact hk x2 rfl
    | 3, hj => simp at hj; subst hj; exact hk x3 rfl
    | _ + 4, hj => simp at hj
  clear hc hh e2 e3
  have HR0 : Hid (((w.alloc (.cells #[.int .u8 0, .int .u8 0, .int .u8 0, .int .u8 0] 171)).alloc (.cells #[.int .u8 0, .int .u8 0, .int .u8 0, .int .u8 0] 171)).heap[w.heap.size]? = some (.cells #[.int .u8 0, .int .u8 0, .int .u8 0, .int .u8 0] 171 (0, 0))) := ((Kept.refl [] _).alloc _).heap (heap_alloc_new w _) (by simp)
  have HKB : Hid (∀ w2, Below (w.heap.size + 1) ((w.alloc (.cells #[.int .u8 0, .int .u8 0, .int .u8 0, .int .u8 0] 171)).alloc (.cells #[.int .u8 0, .int .u8 0, .int .u8 0, .int .u8 0] 171)) w2 → Kept [] w w2) := fun w2 hb =>
    ⟨hb.os, hb.tape, hb.output, Nat.le_trans (((Kept.refl [] w).alloc _).alloc _).size hb.size, fun k hk _ => (hb.block k (by omega)).trans ((((Kept.refl [] w).alloc _).alloc _).block k hk (by simp))⟩
  have HN : Hid ([Value.int .u8 x0, .int .u8 x1, .int .u8 x2, .int .u8 x3].length = Nat.min n 4) := (Nat.min_eq_right hn4).symm
  go_enter Try.func110, Try.ntmps110
  go_wp2_with (refine wpList_copy_splice rfl (.tmp 4) (.tmp 5) 22 22 rfl 5 Try.underlying22 Try.size_u8 _ _ 4 4 n cap rfl rfl (w.heap.size + 1) 0 [.int .u8 0, .int .u8 0, .int .u8 0, .int .u8 0] 171 (by have h := heap_alloc_new (w.alloc (.cells #[.int .u8 0, .int .u8 0, .int .u8 0, .int .u8 0] 171)) (.cells #[.int .u8 0, .int .u8 0, .int .u8 0, .int .u8 0] 171); rw [World.size_alloc] at h; exact h) [.int .u8 x0, .int .u8 x1, .int .u8 x2, .int .u8 x3] HN.out (fun _ => ⟨rfl, _, rfl, HC.out⟩) (by simp) (by simp [Value.oneCell']) (w.heap.size + 1) _ (Below.refl _ _) (Nat.le_refl _) ?_; intro w2 hg hb; have hg2 : w2.heap[w.heap.size + 1]? = some (.cells #[.int .u8 x0, .int .u8 x1, .int .u8 x2, .int .u8 x3] 171 (0, 0)) := hg.out; have hr2 : w2.heap[w.heap.size]? = some (.cells #[.int .u8 0, .int .u8 0, .int .u8 0, .int .u8 0] 171 (0, 0)) := (hb.block w.heap.size (Nat.lt_succ_self _)).trans HR0.out; obtain ⟨p1, p2, p3⟩ := own_facts hg2; obtain ⟨q1, q2, q3⟩ := own_facts hr2; have HK : Hid (Kept [] w w2) := HKB.out w2 hb; clear hg hb hg2 hr2)
  exact bodyPost_ret (v := .agg #[.int .u8 x0, .int .u8 x1, .int .u8 x2, .int .u8 x3]) (by simp [results, Try.results110, go_sem, q1]) rfl ⟨rfl, (((HK.out.setCell (Or.inr (Nat.le_refl _)) _).setCell (Or.inr (Nat.le_refl _)) _).setCell (Or.inr (Nat.le_refl _)) _).setCell (Or.inr (Nat.le_refl _)) _⟩
end Go.Proofs.Ytldhbcppnoldiaa

namespace Go.Proofs.Ytldhbcppnoldiaa
open Go.RowKit

theorem octs_cd {bs : List Int} {c : Cd} (hc : c.ok bs) (hb : bs.length ≤ 65536) (ht : (c.txt bs).length ≤ 65536) (hot : Octs (c.txt bs)) : Octs c.enc := by
  cases c with
  | new t =>
    have ht' : t.length ≤ 65536 := ht
    intro u hu
    rcases List.mem_append.1 hu with h | h
    · exact varB_octs _ (by omega) (by omega) u h
    · exact hot u h
  | cp st n =>
    obtain ⟨h1, h2⟩ := hc
    intro u hu
    rcases List.mem_append.1 hu with h | h
    · exact varB_octs _ (by omega) (by omega) u h
    · exact varB_octs _ (by omega) (by omega) u h
theorem octs_del (bs ts : List Int) (cs : List Cd) (hb : bs.length ≤ 65536) (ht : ts.length ≤ 65536) (hot : Octs ts) (hok : ∀ c, c ∈ cs → c.ok bs) (htx : txts bs cs = ts) : Octs (delL bs ts cs) := by
  intro u hu
  unfold delL at hu
  rcases List.mem_append.1 hu with h | h
  · rcases List.mem_append.1 h with h | h
    · exact varB_octs _ (by omega) (by omega) u h
    · exact varB_octs _ (by omega) (by omega) u h
  · unfold encs at h
    obtain ⟨c, hc, hcu⟩ := List.mem_flatMap.1 h
    have hsub : ∀ v, v ∈ c.txt bs → v ∈ ts := fun v hv => by rw [← htx]; exact List.mem_flatMap.2 ⟨c, hc, hv⟩
    have hlen : (c.txt bs).length ≤ ts.length := by
      rw [← htx]
      unfold txts
      obtain ⟨s, t, rfl⟩ := List.append_of_mem hc
      simp only [List.flatMap_append, List.flatMap_cons, List.length_append]
      omega
    exact octs_cd (hok c hc) hb (by omega) (fun v hv => hot v (hsub v hv)) u hcu
end Go.Proofs.Ytldhbcppnoldiaa
