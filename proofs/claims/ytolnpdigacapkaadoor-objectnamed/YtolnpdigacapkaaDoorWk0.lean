/-
  A commit, a tag encoded; its encoding read.
-/
import Derived.Test.YtolnpdigacapkaaDoorSame0
import Derived.Test.YtolnpdigacapkaaDoorEncCom
import Derived.Test.YtolnpdigacapkaaDoorEncTag
import Derived.Test.YtolnpdigacapkaaDoorReadC
import Derived.Test.YtolnpdigacapkaaDoorReadG
import Derived.Test.YtolnpdigacapkaaDoorRt1
namespace Go.Proofs.YtolnpdigacapkaaDoor
open Go.RowKit

theorem ids_below {w : World} {v : Value} {ids : List (List Int)} (h : IdsAt w v ids) (hg : ∀ o, o ∈ ids → o.length = 32) (hne : ids ≠ []) : ∀ b, blkOf v = some b → b < w.heap.size := fun b hb => by
  obtain ⟨ao, cap, rfl, _, _, _, hc⟩ := h
  obtain ⟨b', off, rfl, hh⟩ := hc hne
  obtain rfl : b' = b := by simpa [blkOf] using hb
  obtain ⟨x, r, rfl⟩ : ∃ x r, ids = x :: r := by cases ids with | nil => exact absurd rfl hne | cons x r => exact ⟨x, r, rfl⟩
  have hx := hg x (by simp)
  obtain ⟨u, hu⟩ : ∃ u, (x.map (Value.int .u8))[0]? = some u := ⟨_, List.getElem?_eq_getElem (by rw [List.length_map]; omega)⟩
  exact World.block_lt_of_cell? w _ (hh 0 x rfl 0 u hu)
theorem WAt.above {w : World} {wb B : Nat} {zs : List Int} {S : List Nat} (h : WAt w wb B zs S) : ∀ b, b ∈ S → B ≤ b := fun b hb => by
  obtain ⟨ao, cap, _, hown, rfl, _, _, hB⟩ := h
  rcases List.mem_cons.1 hb with rfl | hb
  · exact hB
  · exact (World.ownsRow.lt hown b (by simpa using hb)).1
theorem encodeC (c : ComL) (pv : Value) (w : World) (hT : Tabs w) (hp : IdsAt w pv c.parents) (hg : c.Good) (hlen : (encC c).length ≤ 100000000) (hz : c.who.length + c.text.length ≤ 100000000) :
    Calls Tryd.prog 5 #[.agg (comO c pv).row.toArray] w (EncP w (faultC c) (encC c)) := by
  refine encodeCom (comO c pv) w rfl hg.tree.1 rfl (faultC c) (encC c) hlen ?_ ?_
  · exact fun W hW => comFault_any c pv W (hT.kept hW) (hp.keep hW (fun _ _ _ => by simp)) hg
  · intro hf W wb S hW h
    have h8 : c.parents.length ≤ 8 := by
      unfold faultC at hf
      split at hf
      · exact absurd hf (by decide)
      · omega
    refine comWrite_any c pv h hW.size (hp.keep hW (fun _ _ _ => by simp)) (fun hne b hb hS => ?_) hg h8 (by simpa using hz)
    have := ids_below hp (fun o ho => (hg.parents o ho).1) hne b hb
    have := h.above b hS
    omega
theorem encodeT (t : TagL) (w : World) (hT : Tabs w) (hg : t.Good) (hlen : (encG t).length ≤ 100000000) (hz : t.name.length + t.who.length + t.text.length ≤ 100000000) :
    Calls Tryd.prog 5 #[.agg (tagO t).row.toArray] w (EncP w (faultG t) (encG t)) := by
  refine encodeTag (tagO t) w rfl rfl hg.target.1 (faultG t) (encG t) hlen ?_ ?_
  · exact fun W hW => tagFault_any t W (hT.kept hW) hg
  · intro hf W wb S hW h
    have hk : 0 ≤ t.kind ∧ t.kind ≤ 255 := by
      unfold faultG at hf
      split at hf
      · exact absurd hf (by decide)
      · rename_i hm
        simp only [Bool.not_eq_false, modeB, Bool.and_eq_true, decide_eq_true_eq] at hm
        omega
    exact tagWrite_any t h hW.size hg hk.1 hk.2 (by simpa using hz)
theorem readC (c : ComL) (v : Value) (w : World) (hT : Tabs w) (hv : BytesAt w v (encC c)) (ho : Octs (encC c)) (hl : (encC c).length ≤ 65536) (hfit : c.Fit) (hf : faultC c = 0) :
    Calls Tryd.prog 17 #[v] w fun e w' => Kept [] w w' ∧ ∃ b, e = .returned (.tuple #[.iface 71 (.agg (c.row (.slice (some ⟨b, 0, none⟩) c.parents.length c.parents.length)).toArray), .int .i64 0]) ∧ RowsIn w' b 25 (c.parents.map idRow) ∧ w.heap.size ≤ b := by
  obtain ⟨y1, y2, y3, y4, y5, p, h0, h1, h2, hn, hs, h3, h4, h5, hc, hq, hpl⟩ := com_back c hfit
  refine (readCom v (encC c) w hv ho hl hT ⟨3, [], 1, 0⟩ h0.symm rfl y1 y2 y3 y4 y5 c.parents.length c.parents p 0 h1 h2 hn hs h3 h4 h5 c hc (by omega) (by omega)).mono ?_
  rintro e w' ⟨hk, hok, _⟩
  exact ⟨hk, hok ⟨hq, hpl, hf⟩⟩
theorem readT (t : TagL) (v : Value) (w : World) (hT : Tabs w) (hv : BytesAt w v (encG t)) (ho : Octs (encG t)) (hl : (encG t).length ≤ 65536) (hfit : t.Fit) (hf : faultG t = 0) :
    Calls Tryd.prog 17 #[v] w fun e w' => Kept [] w w' ∧ e = .returned (.tuple #[.iface 72 (.agg t.row.toArray), .int .i64 0]) := by
  obtain ⟨y1, y2, y3, y4, y5, y6, h0, h1, h2, h3, h4, h5, h6, ht, hq, hpl⟩ := tag_back t hfit
  refine (readTag v (encG t) w hv ho hl hT ⟨4, [], 1, 0⟩ h0.symm rfl y1 y2 y3 y4 y5 y6 h1 h2 h3 h4 h5 h6 t ht (by omega) (by omega)).mono ?_
  rintro e w' ⟨hk, hok, _⟩
  exact ⟨hk, hok ⟨hq, hpl, hf⟩⟩
end Go.Proofs.YtolnpdigacapkaaDoor
