/-
  A map by ids: each key is an id, and how many keys there are.
  WALK: bytes.Compare of two slices of bytes: which is first (cmpZ' is the same function as cmpZ of CmpZ, over the model's own).
  WALK: the comparison that Store.rows sorts by.
  A LAW's call out of a contract that is told of the laid variables and of the world's shape too. No Go text is named here.
-/
import Derived.Test.YtbphibolgckmnaaGreatDoorSk1
import Derived.ChangeKeys
import Derived.Test.YtbphibolgckmnaaGreatDoorChecked
import Derived.Test.YtbphibolgckmnaaGreatDoorPlain
import Derived.WalkKit
import Derived.Lib.Walk
import Derived.Lib.BytesEntry
import Derived.Lib.Bytealg
import Derived.Laws.Externs
import Derived.Test.YtbphibolgckmnaaGreatDoorSha2
import Derived.Deep.QuietTactic
import Derived.BigQuiet
import Derived.Handed
import Derived.SizedLaws
namespace Go.Proofs.YtbphibolgckmnaaGreatDoor
open Go.RowKit Go.WideMaps

theorem mapM_all {α β : Type} {f : α → Option β} : ∀ {l : List α} {r : List β}, l.mapM f = some r → ∀ x, x ∈ l → ∃ y, f x = some y
  | [], _, _, _, hx => by cases hx
  | a :: l, r, h, x, hx => by
    rw [List.mapM_cons] at h
    cases ha : f a with
    | none => rw [ha] at h; cases h
    | some y =>
      rw [ha] at h
      cases hl : l.mapM f with
      | none => rw [hl] at h; cases h
      | some ys =>
        rcases List.mem_cons.1 hx with rfl | hx
        · exact ⟨y, ha⟩
        · exact mapM_all hl x hx
def u8Of : Value → Int
  | .int _ x => x
  | _ => 0
theorem key_id_inv {key : Value} {kl : Lit} (h : keyOf Tryz.prog 29 key = some kl) : ∃ id, GoodID id ∧ key = .agg (idC id) ∧ kl = idKey id := by
  have A := Tryz.arrId
  obtain ⟨m, hm⟩ := Tryz.typesPos
  have h0 := h
  unfold keyOf at h
  simp only [A.hu] at h
  split at h
  · rename_i hc
    simp only [Bool.and_eq_true] at hc
    obtain ⟨cs, rfl⟩ : ∃ cs, key = .agg cs := by
      have hf := hc.2
      cases key <;> simp [Value.formed, A.hu] at hf
      exact ⟨_, rfl⟩
    have hsz : cs.size = 32 := by have hf := hc.2; simpa [Value.formed, A.hu, A.size] using hf
    rw [hm] at h
    obtain ⟨ls, hls, _⟩ := Option.map_eq_some_iff.1 h
    unfold Program.keyLits at hls
    simp only [A.hu, Value.cells] at hls
    rw [if_pos (by rw [A.size]; simpa using hsz)] at hls
    obtain ⟨lls, has, _⟩ := Option.map_eq_some_iff.1 hls
    have hcell : ∀ i (hi : i < cs.size), ∃ x, cs[i] = .int .u8 x ∧ 0 ≤ x ∧ x ≤ 255 := fun i hi => by
      obtain ⟨y, hy⟩ := mapM_all has i (by simp; omega)
      rw [A.one, Nat.mul_one] at hy
      have e : (cs.toList.drop i).take 1 = [cs[i]] := by
        rw [List.drop_eq_getElem_cons (by simpa using hi)]; simp
      rw [e] at hy
      unfold Program.keyLits at hy
      simp only [Tryz.underlying5] at hy
      generalize cs[i] = v at hy
      cases v <;> simp at hy
      obtain ⟨⟨rfl, hw⟩, _⟩ := hy
      refine ⟨_, rfl, ?_⟩
      have e1 : IntKind.u8.min = 0 := rfl
      have e2 : IntKind.u8.max = 255 := rfl
      simp only [Lit.wf, Bool.and_eq_true, decide_eq_true_eq, e1, e2] at hw
      exact hw
    have hid : idC (cs.toList.map u8Of) = cs := by
      apply Array.ext
      · simp [idC]
      · intro i h1 h2
        obtain ⟨x, hx, _⟩ := hcell i h2
        simp [idC, hx, u8Of]
    have hg : GoodID (cs.toList.map u8Of) := by
      refine ⟨by simpa using hsz, fun x hx => ?_⟩
      obtain ⟨v, hv, rfl⟩ := List.mem_map.1 hx
      obtain ⟨i, hi, rfl⟩ := List.getElem_of_mem hv
      obtain ⟨y, hy, hb⟩ := hcell i (by simpa using hi)
      rw [Array.getElem_toList, hy]
      exact hb
    refine ⟨cs.toList.map u8Of, hg, by rw [hid], ?_⟩
    have h1 := key_id hg
    rw [hid, h0] at h1
    injection h1
  · cases h
theorem alike_ints : ∀ xs ys : List Int, xs.length = ys.length → Alike (xs.map (Lit.int .u8)) (ys.map (Lit.int .u8))
  | [], [], _ => trivial
  | [], _ :: _, h => by simp at h
  | _ :: _, [], h => by simp at h
  | _ :: xs, _ :: ys, h => ⟨rfl, alike_ints xs ys (by simpa using h)⟩
theorem idKey_inj {xs ys : List Int} (hx : GoodID xs) (hy : GoodID ys) (h : idKey xs = idKey ys) : xs = ys := by
  unfold idKey at h
  injection h with h
  have wf : ∀ zs : List Int, GoodID zs → ∀ a, a ∈ zs.map (Lit.int .u8) → a.keyWf := fun zs hz a ha => by
    obtain ⟨x, hx, rfl⟩ := List.mem_map.1 ha
    exact u8_lit (hz.2 x hx).1 (hz.2 x hx).2
  have h1 := keyBytes_inj (alike_ints xs ys (hx.1.trans hy.1.symm)) (wf xs hx) (wf ys hy) h
  exact List.map_inj_right (fun a b hab => by injection hab) |>.1 h1
theorem nodup_le {α : Type} [DecidableEq α] : ∀ {l l' : List α}, l.Pairwise (· ≠ ·) → (∀ x, x ∈ l → x ∈ l') → l.length ≤ l'.length
  | [], _, _, _ => Nat.zero_le _
  | a :: l, l', hp, h => by
    obtain ⟨h1, h2⟩ := List.pairwise_cons.1 hp
    have ha : a ∈ l' := h a (by simp)
    have := nodup_le (l' := l'.erase a) h2 (fun x hx => (List.mem_erase_of_ne (fun e => h1 x hx e.symm)).2 (h x (by simp [hx])))
    rw [List.length_erase_of_mem ha] at this
    have hpos := List.length_pos_of_mem ha
    simp only [List.length_cons]
    omega
theorem has_mem {es : List (Lit × DataW Unit)} {k : Lit} (h : Maps.has (.map es) k = true) : k ∈ es.map (·.1) := by
  simp only [Maps.has, List.any_eq_true] at h
  obtain ⟨p, hp, hs⟩ := h
  exact List.mem_map.2 ⟨p, hp, WideAt.sameKey_eq hs⟩
theorem mem_has {es : List (Lit × DataW Unit)} (hk : ∀ p, p ∈ es → WideAt.IsKeyLit p.1) {k : Lit} (h : k ∈ es.map (·.1)) : Maps.has (.map es) k = true := by
  obtain ⟨p, hp, rfl⟩ := List.mem_map.1 h
  simp only [Maps.has, List.any_eq_true]
  exact ⟨p, hp, WideAt.sameKey_self (hk p hp)⟩
/-- A list of all keys, each once, is as long as the map. -/
theorem keys_len {w : World} {b n : Nat} {D : DataW Unit} (h : w.ownsMap Tryz.prog 29 slR b n D) (ks : List (List Int)) (hg : ∀ k, k ∈ ks → GoodID k) (hp : ks.Pairwise (· ≠ ·)) (h1 : ∀ k, k ∈ ks → Maps.has D (idKey k) = true) (h2 : ∀ kl, Maps.has D kl = true → ∃ k, k ∈ ks ∧ kl = idKey k) : ks.length = Maps.size D := by
  classical
  obtain ⟨es, rfl, hd, hk⟩ := h.entries Tryz.keyId
  have p1 : (ks.map idKey).Pairwise (· ≠ ·) := by
    rw [List.pairwise_map]
    refine List.Pairwise.imp_of_mem (fun {a c} ha hc hne e => hne (idKey_inj (hg a ha) (hg c hc) e)) hp
  have p2 : (es.map (·.1)).Pairwise (· ≠ ·) := by rw [List.pairwise_map]; exact hd
  have l1 := nodup_le p1 (l' := es.map (·.1)) (fun x hx => by
    obtain ⟨k, hk', rfl⟩ := List.mem_map.1 hx
    exact has_mem (h1 k hk'))
  have l2 := nodup_le p2 (l' := ks.map idKey) (fun x hx => by
    obtain ⟨k, hk', rfl⟩ := h2 x (mem_has hk hx)
    exact List.mem_map.2 ⟨k, hk', rfl⟩)
  simp only [List.length_map] at l1 l2
  show ks.length = es.length
  omega
end Go.Proofs.YtbphibolgckmnaaGreatDoor

namespace Go.Proofs.YtbphibolgckmnaaGreatDoor
open Go.RowKit

theorem bytes_acc (l : List UInt8) : (⟨ByteArray.empty.data ++ l.toArray⟩ : ByteArray) = ⟨l.toArray⟩ := by
  apply ByteArray.ext
  show (#[] : Array UInt8) ++ l.toArray = l.toArray
  simp

/-- The model's own comparison at two slices whose cells are known. -/
theorem run_cmpSlice {P : Program} (w : World) (a b : Addr) (c d : Nat) (xs ys : List Int) (hx : ∀ i x, xs[i]? = some x → w.cell? (a.add i) = some (.int .u8 x)) (hy : ∀ i x, ys[i]? = some x → w.cell? (b.add i) = some (.int .u8 x)) :
    (Extern.BytealgCompare.compare #[.slice (some a) xs.length c, .slice (some b) ys.length d]).run P w = .ok (.int .i64 (Lib.compareBytes (Lib.bytesOf xs) (Lib.bytesOf ys))) w := by
  have h1 := Lib.run_loadBytesX (P := P) w xs a .empty hx
  have h2 := Lib.run_loadBytesX (P := P) w ys b .empty hy
  have hs := Lib.run_compareString (P := P) ⟨(Lib.bytesOf xs).toArray⟩ ⟨(Lib.bytesOf ys).toArray⟩ w
  rw [bytes_acc] at h1 h2
  change Sem.run P (do pure (goInt (Extern.BytealgCompare.cmp (← Extern.Bytes.bytesOf (.slice (some a) xs.length c)) (← Extern.Bytes.bytesOf (.slice (some b) ys.length d))))) w = _
  change Sem.run P (do pure (goInt (Extern.BytealgCompare.cmp (← Extern.Bytes.bytesOf (.string ⟨(Lib.bytesOf xs).toArray⟩)) (← Extern.Bytes.bytesOf (.string ⟨(Lib.bytesOf ys).toArray⟩))))) w = _ at hs
  simp only [Extern.Bytes.bytesOf, Sem.run_bind, Sem.run_pure, h1, h2, Result.andThen] at hs ⊢
  simpa using hs

theorem u8_lt {a b : Int} (ha : 0 ≤ a ∧ a ≤ 255) (hb : 0 ≤ b ∧ b ≤ 255) : (UInt8.ofNat a.toNat < UInt8.ofNat b.toNat) ↔ a < b := by
  rw [UInt8.lt_iff_toNat_lt, UInt8.toNat_ofNat_of_lt' (by show _ < 256; omega), UInt8.toNat_ofNat_of_lt' (by show _ < 256; omega)]
  omega

/-- Which of two lists of bytes is first. -/
def cmpB : List Int → List Int → Int
  | [], [] => 0
  | [], _ :: _ => -1
  | _ :: _, [] => 1
  | a :: x, b :: y => if a < b then -1 else if b < a then 1 else cmpB x y
theorem compareBytes_cmpB : ∀ xs ys : List Int, (∀ x, x ∈ xs → 0 ≤ x ∧ x ≤ 255) → (∀ x, x ∈ ys → 0 ≤ x ∧ x ≤ 255) → Lib.compareBytes (Lib.bytesOf xs) (Lib.bytesOf ys) = cmpB xs ys
  | [], [], _, _ => rfl
  | [], _ :: _, _, _ => rfl
  | _ :: _, [], _, _ => rfl
  | a :: x, b :: y, h1, h2 => by
    have ha := h1 a (by simp)
    have hb := h2 b (by simp)
    show (if UInt8.ofNat a.toNat < UInt8.ofNat b.toNat then (-1 : Int) else if UInt8.ofNat b.toNat < UInt8.ofNat a.toNat then 1 else Lib.compareBytes (Lib.bytesOf x) (Lib.bytesOf y)) = if a < b then -1 else if b < a then 1 else cmpB x y
    rw [compareBytes_cmpB x y (fun z hz => h1 z (by simp [hz])) (fun z hz => h2 z (by simp [hz]))]
    simp only [u8_lt ha hb, u8_lt hb ha]

set_option maxHeartbeats 1000000 in
set_option maxRecDepth 100000 in
/-- bytes.Compare tells which is first; the world is as it was. -/
theorem Compare_any (a b : Addr) (c d : Nat) (xs ys : List Int) (w : World) (hx : ∀ i x, xs[i]? = some x → w.cell? (a.add i) = some (.int .u8 x)) (hy : ∀ i x, ys[i]? = some x → w.cell? (b.add i) = some (.int .u8 x))
    (ho : ∀ x, x ∈ xs → 0 ≤ x ∧ x ≤ 255) (ho2 : ∀ x, x ∈ ys → 0 ≤ x ∧ x ≤ 255) :
    Calls Tryz.prog 53 #[.slice (some a) xs.length c, .slice (some b) ys.length d] w fun e w' => e = .returned (.int .i64 (cmpB xs ys)) ∧ w' = w := by
  go_enter Tryz.func53, Tryz.ntmps53
  go_wp2
  rw [run_callFunc_extern Tryz.func70 (by kernel_rfl) (by kernel_rfl) (by kernel_rfl) (e := Extern.BytealgCompare.compare) (by kernel_rfl), run_cmpSlice w a b c d xs ys hx hy, compareBytes_cmpB xs ys ho ho2]
  simp only [Result.andThen]
  rw [Oper.upon_value]
  go_wp2
  go_ret
  exact ⟨rfl, rfl⟩
end Go.Proofs.YtbphibolgckmnaaGreatDoor

namespace Go.Proofs.YtbphibolgckmnaaGreatDoor
open Go.RowKit

/-- A row: an id, its encoding. -/
def rowC (xs : List Int) (v : Value) : Array Value := (xs.map (Value.int .u8) ++ [v]).toArray
theorem rowC_cell {w : World} {g : Nat} {xs : List Int} {v : Value} {t : TypeId} {fr : Nat × Nat} (h : w.heap[g]? = some (.cells (rowC xs v) t fr)) (i : Nat) (x : Int) (hx : xs[i]? = some x) : w.cell? ((⟨g, 0, none⟩ : Addr).add i) = some (.int .u8 x) := by
  have hi : i < xs.length := (List.getElem?_eq_some_iff.1 hx).1
  have e : (⟨g, 0, none⟩ : Addr).add i = ⟨g, 0 + i, none⟩ := by unfold Addr.add; split <;> simp_all
  rw [e, cell_of_row _ _ _ _ _ _ h, Nat.zero_add, ← Array.getElem?_toList]
  show (xs.map (Value.int .u8) ++ [v])[i]? = _
  rw [List.getElem?_append_left (by simpa using hi), List.getElem?_map, hx]
  rfl

set_option maxHeartbeats 1000000 in
set_option maxRecDepth 100000 in
/-- Rows are held against each other by their ids. -/
theorem rowCmp_any (xs ys : List Int) (u v : Value) (W : World) (hx : GoodID xs) (hy : GoodID ys) :
    Calls Tryz.prog 52 #[.agg (rowC xs u), .agg (rowC ys v)] W fun e w' => e = .returned (.int .i64 (cmpB xs ys)) ∧ ∃ n, w' = ((W.alloc (.cells (rowC xs u) 89)).alloc (.cells (rowC ys v) 89)).drewN n := by
  have hcmp : ∀ n, Calls Tryz.prog 53 #[.slice (some ⟨W.heap.size, 0, none⟩) 32 32, .slice (some ⟨W.heap.size + 1, 0, none⟩) 32 32] (((W.alloc (.cells (rowC xs u) 89)).alloc (.cells (rowC ys v) 89)).drewN n) fun e w' => e = .returned (.int .i64 (cmpB xs ys)) ∧ w' = ((W.alloc (.cells (rowC xs u) 89)).alloc (.cells (rowC ys v) 89)).drewN n := fun n => by
    have h := Compare_any ⟨W.heap.size, 0, none⟩ ⟨W.heap.size + 1, 0, none⟩ 32 32 xs ys (((W.alloc (.cells (rowC xs u) 89)).alloc (.cells (rowC ys v) 89)).drewN n)
      (rowC_cell (xs := xs) (v := u) (t := 89) (fr := (0, 0)) (by
        show ((W.alloc _).alloc _).heap[W.heap.size]? = _
        rw [Below.heap_alloc _ _ _ (by rw [World.size_alloc]; omega)]
        exact heap_alloc_new W _))
      (rowC_cell (xs := ys) (v := v) (t := 89) (fr := (0, 0)) (by
        have := heap_alloc_new (W.alloc (.cells (rowC xs u) 89)) (.cells (rowC ys v) 89)
        rw [World.size_alloc] at this
        exact this))
      (fun x h => hx.2 x h) (fun x h => hy.2 x h)
    rw [hx.1, hy.1] at h
    exact h
  have s1 : (rowC xs u).size = 33 := by simp [rowC, hx.1]
  have s2 : (rowC ys v).size = 33 := by simp [rowC, hy.1]
  clear hx hy
  generalize rowC xs u = c1 at *
  generalize rowC ys v = c2 at *
  generalize cmpB xs ys = z at *
  go_enter Tryz.func52, Tryz.ntmps52
  go_wp2
  go_quiet (first | (go_at_call 53; exact Calls.quiet_of_same (hcmp _)))
  go_wp2
  go_ret
  exact ⟨rfl, _, rfl⟩
end Go.Proofs.YtbphibolgckmnaaGreatDoor

namespace Go.Proofs.YtbphibolgckmnaaGreatDoor
open Go.RowKit

theorem handed_shapedX {H : Type} {enc : TypeId × Value → H} {C : Checked} {os : Os} {f : FuncId} {fn : Func} {s : ChangeSpec} {X : World → Array Value → Prop}
    (hX : ∀ (w w' : World) (args : Array Value), w.heap = w'.heap → X w args → X w' args) (own : ownKnob C.prog.godebug = none) (started : os.Started) (noInit : C.prog.inits.idxOf? f = none) (hfn : C.prog.funcs[f]? = some fn)
    (witness : ∃ (w : World) (tape : Tape) (i : Input), w.os = os ∧ (w.forCall tape i).Shaped C.prog ∧ i.vars = [] ∧ Input.okWide C.prog (w.forCall tape i) .any w.heap.size f i ∧
      ((s.pre enc C.prog fn [] false (w.forCall tape i).memory i.args ∧ X (w.forCall tape i).memory i.args) ∧ sizedMet enc C.prog fn (OpenSpec.ofChange s) false (w.forCall tape i).memory i.args) ∧ (({} : Assume).holds C.prog (lone (Frame.enter C.prog f i.args .normal) [] (w.forCall tape i))))
    (contract : ∀ (W : World) (base : Nat) (args : Array Value) (ds gs : List (DataW H)) (before : List MemPlace),
      (∀ (j : Nat) t v, fn.params[j]? = some t → args[j]? = some v → Value.okWide C.prog W .any base t v) → DataW.Whole enc C.prog fn.params.toList s.vars false W args.toList ds gs before →
      (DataW.weightsEach C.prog (fn.params.toList ++ s.plain.varTypes C.prog) (ds ++ gs)).all (· ≤ reachBytes) = true → X W args → W.ShapedOpen C.prog →
      Calls C.prog f args W fun e W' => ∃ v, e = .returned v ∧ s.post enc C.prog fn false true false false W args v W') :
    ReturnsInHanded {} C os f .any (fun w args => (s.pre enc C.prog fn [] false w args ∧ X w args) ∧ sizedMet enc C.prog fn (OpenSpec.ofChange s) false w args) (s.post enc C.prog fn false true false false) := by
  refine returnsInHanded_of_calls own started noInit witness fun w tape i _ hsh _ hok hpre _ => ?_
  obtain ⟨_, _, _, fn2, hfn2, _, _, _, _, hval⟩ := hok
  obtain rfl : fn = fn2 := Option.some.inj (hfn.symm.trans hfn2)
  obtain ⟨⟨⟨ds, gs, before, hw, _⟩, hx⟩, hz⟩ := hpre
  have hw2 : DataW.Whole enc C.prog fn.params.toList s.vars false (w.forCall tape i) i.args.toList ds gs before := DataW.Whole.of_heap (by rfl) hw
  refine (contract (w.forCall tape i) w.heap.size i.args ds gs before hval hw2 (hz.weights hw) (hX _ _ _ (by rfl) hx) hsh).mono ?_
  rintro e W' ⟨v, rfl, hp⟩
  exact ChangeSpec.post_blind hp
end Go.Proofs.YtbphibolgckmnaaGreatDoor
