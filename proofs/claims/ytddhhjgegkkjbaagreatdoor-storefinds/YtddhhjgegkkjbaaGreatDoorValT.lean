/-
  WALK: unicode/utf8.ValidString, whatever its two tables hold: what it answers is a function of them and of the text.
-/
import Derived.Test.YtddhhjgegkkjbaaGreatDoorShelf
import Derived.Test.YtddhhjgegkkjbaaGreatDoorPlain
import Derived.Shelf.Unicode.ValidAny
import Derived.BigQuiet
namespace Go.Proofs.YtddhhjgegkkjbaaGreatDoor
open Go.RowKit Go.Shelf Go.Lib

/-- The two tables. -/
structure FT where
  tf : Nat → Nat
  lo : Nat → Nat
  hi : Nat → Nat
  small : ∀ c, tf c < 256
/-- They lie in memory. -/
structure FTat (T : FT) (w : World) : Prop where
  first : ∀ c, c < 256 → w.cell? ⟨3, c, none⟩ = some (.int .u8 (T.tf c : Nat))
  low : ∀ i, i < 16 → w.cell? ⟨4, i * 2, none⟩ = some (.int .u8 (T.lo i : Nat))
  high : ∀ i, i < 16 → w.cell? ⟨4, i * 2 + 1, none⟩ = some (.int .u8 (T.hi i : Nat))
theorem FTat.kept {T : FT} {w w' : World} {S : List Nat} (h : FTat T w) (k : Kept S w w') (h1 : 3 ∉ S) (h2 : 4 ∉ S) : FTat T w' :=
  ⟨fun c hc => k.cell (h.first c hc) h1, fun i hi => k.cell (h.low i hi) h2, fun i hi => k.cell (h.high i hi) h2⟩
/-- What is answered, byte by byte. -/
def vL (T : FT) : Nat → List UInt8 → Bool
  | 0, _ => true
  | _ + 1, [] => true
  | n + 1, b :: r =>
    if b.toNat < 128 then vL T n r
    else if T.tf b.toNat % 8 = 2 then (if r.length < 1 ∨ (r.getD 0 0).toNat < T.lo (T.tf b.toNat / 16) ∨ T.hi (T.tf b.toNat / 16) < (r.getD 0 0).toNat then false else vL T n (r.drop 1))
    else if T.tf b.toNat % 8 = 3 then (if r.length < 2 ∨ (r.getD 0 0).toNat < T.lo (T.tf b.toNat / 16) ∨ T.hi (T.tf b.toNat / 16) < (r.getD 0 0).toNat ∨ (r.getD 1 0).toNat < 128 ∨ 191 < (r.getD 1 0).toNat then false else vL T n (r.drop 2))
    else if T.tf b.toNat % 8 = 4 then (if r.length < 3 ∨ (r.getD 0 0).toNat < T.lo (T.tf b.toNat / 16) ∨ T.hi (T.tf b.toNat / 16) < (r.getD 0 0).toNat ∨ (r.getD 1 0).toNat < 128 ∨ 191 < (r.getD 1 0).toNat ∨ (r.getD 2 0).toNat < 128 ∨ 191 < (r.getD 2 0).toNat then false else vL T n (r.drop 3))
    else false
theorem vL_fuel (T : FT) : ∀ (n m : Nat) (l : List UInt8), l.length < n → l.length < m → vL T n l = vL T m l
  | 0, _, _, h, _ => by omega
  | _, 0, _, _, h => by omega
  | n + 1, m + 1, [], _, _ => rfl
  | n + 1, m + 1, b :: r, h, h' => by
    have h1 : r.length < n := by simpa using h
    have h2 : r.length < m := by simpa using h'
    have e : ∀ k, vL T n (r.drop k) = vL T m (r.drop k) := fun k => vL_fuel T n m (r.drop k) (by rw [List.length_drop]; omega) (by rw [List.length_drop]; omega)
    simp only [vL, vL_fuel T n m r h1 h2, e]
def valT (T : FT) (l : List UInt8) : Bool := vL T (l.length + 1) l
theorem valT_nil (T : FT) : valT T [] = true := rfl
theorem valT_asc (T : FT) (b : UInt8) (r : List UInt8) (hb : b.toNat < 128) : valT T (b :: r) = valT T r := by
  show vL T (r.length + 1 + 1) (b :: r) = _
  simp only [vL, hb, if_true]
  rfl
theorem valT_skip (T : FT) : ∀ (k : Nat) (l : List UInt8), (∀ b, b ∈ l.take k → b.toNat < 128) → valT T (l.drop k) = valT T l
  | 0, _, _ => rfl
  | _ + 1, [], _ => rfl
  | k + 1, b :: r, h => by
    rw [valT_asc T b r (h b (by simp)), List.drop_succ_cons]
    exact valT_skip T k r (fun c hc => h c (by simp [hc]))
theorem valT_ext (T : FT) (t : ByteArray) (k : Nat) (h : Lib.Asc t k) : valT T (t.extract k t.size).data.toList = valT T t.data.toList := by
  rw [Lib.ext_list]
  exact valT_skip T k _ h
theorem valT_lead (T : FT) (t : ByteArray) (h0 : 0 < t.size) (hb : 128 ≤ (t.get! 0).toNat) : valT T t.data.toList =
    if T.tf (t.get! 0).toNat % 8 = 2 then (if t.size < 2 ∨ (t.get! 1).toNat < T.lo (T.tf (t.get! 0).toNat / 16) ∨ T.hi (T.tf (t.get! 0).toNat / 16) < (t.get! 1).toNat then false else valT T (t.extract 2 t.size).data.toList)
    else if T.tf (t.get! 0).toNat % 8 = 3 then (if t.size < 3 ∨ (t.get! 1).toNat < T.lo (T.tf (t.get! 0).toNat / 16) ∨ T.hi (T.tf (t.get! 0).toNat / 16) < (t.get! 1).toNat ∨ (t.get! 2).toNat < 128 ∨ 191 < (t.get! 2).toNat then false else valT T (t.extract 3 t.size).data.toList)
    else if T.tf (t.get! 0).toNat % 8 = 4 then (if t.size < 4 ∨ (t.get! 1).toNat < T.lo (T.tf (t.get! 0).toNat / 16) ∨ T.hi (T.tf (t.get! 0).toNat / 16) < (t.get! 1).toNat ∨ (t.get! 2).toNat < 128 ∨ 191 < (t.get! 2).toNat ∨ (t.get! 3).toNat < 128 ∨ 191 < (t.get! 3).toNat then false else valT T (t.extract 4 t.size).data.toList)
    else false := by
  have g : ∀ k, (t.get! k) = t.data.toList.getD k 0 := fun k => (Lib.getD_get!' t k).symm
  rw [g 0, g 1, g 2, g 3, Lib.ext_list, Lib.ext_list, Lib.ext_list, Lib.size_eq] at *
  generalize t.data.toList = l at *
  cases l with
  | nil => simp at h0
  | cons b r =>
    have hb' : ¬ b.toNat < 128 := by simp at hb; omega
    have e : ∀ k, vL T (r.length + 1) (r.drop k) = valT T (r.drop k) := fun k => vL_fuel T _ _ _ (by rw [List.length_drop]; omega) (by omega)
    have q1 : (b :: r).length < 2 ↔ r.length < 1 := by simp only [List.length_cons]; omega
    have q2 : (b :: r).length < 3 ↔ r.length < 2 := by simp only [List.length_cons]; omega
    have q3 : (b :: r).length < 4 ↔ r.length < 3 := by simp only [List.length_cons]; omega
    show vL T (r.length + 1 + 1) (b :: r) = _
    simp only [vL, hb', if_false, e, q1, q2, q3, List.drop_succ_cons, List.getD_cons_zero, List.getD_cons_succ]

set_option maxHeartbeats 16000000 in
set_option maxRecDepth 1000000 in
theorem ValidT_any (T : FT) (s : ByteArray) (w : World) (hs : s.size ≤ 9223372036854775807) (hT : FTat T w) :
    Calls Tryz.prog 132 #[.string s] w fun e w' => e = .returned (.bool (valT T s.data.toList)) ∧ Kept [] w w' := by
  obtain ⟨ANS, hANS⟩ : ∃ ANS, valT T s.data.toList = ANS := ⟨_, rfl⟩
  rw [hANS]
  have mixed : Tryz.prog.follows .mixedOrders = true := by kernel_rfl
  have t3 := Tryz.underlying3; have a3 := Tryz.isAgg3; have z3 := Tryz.sizeOf3
  have t4 := Tryz.underlying4; have a4 := Tryz.isAgg4; have z4 := Tryz.sizeOf4
  have t5 := Tryz.underlying5; have a5 := Tryz.isAgg5; have z5 := Tryz.sizeOf5
  have t9 := Tryz.underlying9; have a9 := Tryz.isAgg9; have z9 := Tryz.sizeOf9
  have tx := Tryz.underlying190; have ax := Tryz.isAgg190; have zx := Tryz.sizeOf190
  have ux := run_underlying tx
  go_enter Tryz.func132, Tryz.ntmps132
  go_wp2
  go_loopg [0] (s.size + 1) (fun gk s0 wx => Kept [] w wx ∧ ∃ t : ByteArray, s0 = .string t ∧ valT T t.data.toList = ANS ∧ t.size < gk ∧ t.size ≤ 9223372036854775807)
  case atStart => exact ⟨Kept.refl _ _, s, rfl, hANS, by omega, hs⟩
  case round =>
    obtain ⟨hkw, t, rfl, hv, hg, hts⟩ := hrel
    clear hANS
    have hTr := hT.kept hkw (by simp) (by simp)
    by_cases h0 : 0 < t.size
    · obtain ⟨g', rfl⟩ : ∃ g', gk = g' + 1 := ⟨gk - 1, by omega⟩
      have h0z : (0 : Int) < (t.size : Int) := by omega
      obtain ⟨x0, hx0⟩ : ∃ q, t.get! 0 = q := ⟨_, rfl⟩
      have hs0 : t[0]'(by omega) = x0 := by rw [← hx0]; exact (Utf8W.get!_of_lt t 0 (by omega)).symm
      have hx0lt : x0.toNat < 256 := x0.toNat_lt
      by_cases hasc : x0.toNat < 128
      · have hascz : (x0.toNat : Int) < 128 := by omega
        have a1 : Lib.Asc t 1 := Lib.asc_one t h0 (by rw [hx0]; exact hasc)
        obtain ⟨t1, ht1⟩ : ∃ q, t.extract 1 t.size = q := ⟨_, rfl⟩
        have zt1 : t1.size + 1 = t.size := by rw [← ht1, Lib.ext_size]; omega
        have v1 : valT T t1.data.toList = ANS := by rw [← ht1, valT_ext T t 1 a1]; exact hv
        clear hTr hT hv a1
        by_cases c8 : 8 < t1.size
        case neg =>
          have c8z : ¬ ((8 : Int) < (t1.size : Int)) := by omega
          go_wp2
          go_roundg g'
          case measure => omega
          case rel => exact ⟨hkw, t1, rfl, v1, by omega, by omega⟩
        case pos =>
          have c8z : (8 : Int) < (t1.size : Int) := by omega
          obtain ⟨A1, hA1⟩ : ∃ q, Lib.leNat [t1.get! 0, t1.get! 1, t1.get! 2, t1.get! 3, t1.get! 4, t1.get! 5, t1.get! 6, t1.get! 7] = q := ⟨_, rfl⟩
          have lA1 : A1 < 18446744073709551616 := hA1 ▸ Lib.word_lt t1
          have cA1 : ∀ W, Calls Tryz.prog 134 #[.string t1] W fun e w' => e = .returned (.int .u64 A1) ∧ ∃ q, w' = W.drewN q := fun W => by rw [← hA1]; exact Any.utf8_word { Tryz.laysValid with } t1 W (by omega)
          have kA1 := Lib.word_asc t1 (by omega)
          rw [hA1] at kA1
          have hand1 : bits .and .u64 (A1 : Int) 9259542123273814144 = ((A1 &&& 9259542123273814144 : Nat) : Int) := u64_and_nat A1 9259542123273814144 lA1 (by omega)
          obtain ⟨Z1, hZ1⟩ : ∃ q, A1 &&& 9259542123273814144 = q := ⟨_, rfl⟩
          rw [hZ1] at hand1 kA1
          by_cases hz1 : Z1 = 0
          case neg =>
            have hz1b : ((Z1 : Int) == 0) = false := by simp; omega
            go_wp2_with (go_at_call 134; (with_reducible refine (cA1 _).mono ?_); rintro e W1 ⟨rfl, q1, rfl⟩)
            go_roundg g'
            case measure => omega
            case rel => exact ⟨hkw.drewN q1, t1, rfl, v1, by omega, by omega⟩
          case pos =>
            have hz1b : ((Z1 : Int) == 0) = true := by simp [hz1]
            have a8 : Lib.Asc t1 8 := kA1.1 hz1
            obtain ⟨t2, ht2⟩ : ∃ q, t1.extract 8 t1.size = q := ⟨_, rfl⟩
            have zt2 : t2.size + 8 = t1.size := by rw [← ht2, Lib.ext_size]; omega
            have v2 : valT T t2.data.toList = ANS := by rw [← ht2, valT_ext T t1 8 a8]; exact v1
            clear kA1 a8 v1
            go_wp2_with (go_at_call 134; (with_reducible refine (cA1 _).mono ?_); rintro e W1 ⟨rfl, q1, rfl⟩)
            have hb1 : Kept [] w (wr.drewN q1) := hkw.drewN q1
            generalize wr.drewN q1 = wq at hb1 ⊢
            clear cA1 hkw
            by_cases c16 : 16 < t2.size
            case neg =>
              have c16z : ¬ ((16 : Int) < (t2.size : Int)) := by omega
              have c16b : decide ((16 : Int) < (t2.size : Int)) = false := decide_eq_false c16z
              go_big_quiet_o (fail)
              go_wp2
              go_roundg g'
              case measure => omega
              case rel => exact ⟨hb1.drewN nq, t2, rfl, v2, by omega, by omega⟩
            case pos =>
              have c16z : (16 : Int) < (t2.size : Int) := by omega
              have s8z : (8 : Int) ≤ (t2.size : Int) := by omega
              obtain ⟨t2b, ht2b⟩ : ∃ q, t2.extract 8 t2.size = q := ⟨_, rfl⟩
              have zt2b : t2b.size + 8 = t2.size := by rw [← ht2b, Lib.ext_size]; omega
              obtain ⟨A2, hA2⟩ : ∃ q, Lib.leNat [t2.get! 0, t2.get! 1, t2.get! 2, t2.get! 3, t2.get! 4, t2.get! 5, t2.get! 6, t2.get! 7] = q := ⟨_, rfl⟩
              have lA2 : A2 < 18446744073709551616 := hA2 ▸ Lib.word_lt t2
              have cA2 : ∀ W, Calls Tryz.prog 134 #[.string t2] W fun e w' => e = .returned (.int .u64 A2) ∧ ∃ q, w' = W.drewN q := fun W => by rw [← hA2]; exact Any.utf8_word { Tryz.laysValid with } t2 W (by omega)
              have kA2 := Lib.word_asc t2 (by omega)
              rw [hA2] at kA2
              obtain ⟨A3, hA3⟩ : ∃ q, Lib.leNat [t2b.get! 0, t2b.get! 1, t2b.get! 2, t2b.get! 3, t2b.get! 4, t2b.get! 5, t2b.get! 6, t2b.get! 7] = q := ⟨_, rfl⟩
              have lA3 : A3 < 18446744073709551616 := hA3 ▸ Lib.word_lt t2b
              have cA3 : ∀ W, Calls Tryz.prog 134 #[.string t2b] W fun e w' => e = .returned (.int .u64 A3) ∧ ∃ q, w' = W.drewN q := fun W => by rw [← hA3]; exact Any.utf8_word { Tryz.laysValid with } t2b W (by omega)
              have kA3 := Lib.word_asc t2b (by omega)
              rw [hA3] at kA3
              have hor2 : bits .or .u64 (A2 : Int) (A3 : Int) = ((A2 ||| A3 : Nat) : Int) := u64_or_nat A2 A3 lA2 lA3
              have lor2 : A2 ||| A3 < 18446744073709551616 := Nat.or_lt_two_pow (n := 64) lA2 lA3
              have hand2 : bits .and .u64 ((A2 ||| A3 : Nat) : Int) 9259542123273814144 = (((A2 ||| A3) &&& 9259542123273814144 : Nat) : Int) := u64_and_nat _ 9259542123273814144 lor2 (by omega)
              have k2 : (A2 ||| A3) &&& 9259542123273814144 = 0 → Lib.Asc t2 16 := fun q => Lib.asc_add t2 8 8 (kA2.1 ((Lib.or_mask A2 A3 _).1 q).1) (by rw [ht2b]; exact kA3.1 ((Lib.or_mask A2 A3 _).1 q).2)
              obtain ⟨O2, hO2⟩ : ∃ q, A2 ||| A3 = q := ⟨_, rfl⟩
              rw [hO2] at hor2 hand2 k2
              obtain ⟨Z2, hZ2⟩ : ∃ q, O2 &&& 9259542123273814144 = q := ⟨_, rfl⟩
              rw [hZ2] at hand2 k2
              clear kA2 kA3 lor2 hO2 hZ2
              by_cases hz2 : Z2 = 0
              case neg =>
                have hz2b : ((Z2 : Int) == 0) = false := by simp; omega
                go_big_quiet_o (first | (go_at_call 134; with_reducible refine Calls.quiet_of (cA2 _)) | (go_at_call 134; with_reducible refine Calls.quiet_of (cA3 _)))
                go_wp2
                go_roundg g'
                case measure => omega
                case rel => exact ⟨hb1.drewN nq, t2, rfl, v2, by omega, by omega⟩
              case pos =>
                have hz2b : ((Z2 : Int) == 0) = true := by simp [hz2]
                have a16 := k2 hz2
                obtain ⟨t3, ht3⟩ : ∃ q, t2.extract 16 t2.size = q := ⟨_, rfl⟩
                have zt3 : t3.size + 16 = t2.size := by rw [← ht3, Lib.ext_size]; omega
                have v3 : valT T t3.data.toList = ANS := by rw [← ht3, valT_ext T t2 16 a16]; exact v2
                clear k2 a16 v2
                go_big_quiet_o (first | (go_at_call 134; with_reducible refine Calls.quiet_of (cA2 _)) | (go_at_call 134; with_reducible refine Calls.quiet_of (cA3 _)))
                have hb2 : Kept [] w (wq.drewN nq) := hb1.drewN nq
                generalize wq.drewN nq = wq2 at hb2 ⊢
                clear cA2 cA3 hb1
                go_wp2
                go_loopg [0] (t3.size + 1) (fun g2 s0 wx => Kept [] w wx ∧ ∃ u : ByteArray, s0 = .string u ∧ valT T u.data.toList = ANS ∧ u.size < g2 ∧ u.size ≤ t3.size)
                case atStart => exact ⟨hb2, t3, rfl, v3, by omega, Nat.le_refl _⟩
                case round =>
                  obtain ⟨hbu, u, rfl, vu, hgu, hut⟩ := hrel
                  by_cases c32 : 32 < u.size
                  case neg =>
                    have c32z : ¬ ((32 : Int) < (u.size : Int)) := by omega
                    have c32b : decide ((32 : Int) < (u.size : Int)) = false := decide_eq_false c32z
                    go_wp2_with fail
                    go_big_quiet_o (fail)
                    go_wp2
                    go_roundg g'
                    case measure => omega
                    case rel => exact ⟨hbu.drewN nq, u, rfl, vu, by omega, by omega⟩
                  case pos =>
                    obtain ⟨g3, rfl⟩ : ∃ q, gk = q + 1 := ⟨gk - 1, by omega⟩
                    have c32z : (32 : Int) < (u.size : Int) := by omega
                    have s8u : (8 : Int) ≤ (u.size : Int) := by omega
                    have s16u : (16 : Int) ≤ (u.size : Int) := by omega
                    have s24u : (24 : Int) ≤ (u.size : Int) := by omega
                    obtain ⟨ub, hub⟩ : ∃ q, u.extract 8 u.size = q := ⟨_, rfl⟩
                    have zub : ub.size + 8 = u.size := by rw [← hub, Lib.ext_size]; omega
                    obtain ⟨uc, huc⟩ : ∃ q, u.extract 16 u.size = q := ⟨_, rfl⟩
                    have zuc : uc.size + 16 = u.size := by rw [← huc, Lib.ext_size]; omega
                    obtain ⟨ud, hud⟩ : ∃ q, u.extract 24 u.size = q := ⟨_, rfl⟩
                    have zud : ud.size + 24 = u.size := by rw [← hud, Lib.ext_size]; omega
                    obtain ⟨B0, hB0⟩ : ∃ q, Lib.leNat [u.get! 0, u.get! 1, u.get! 2, u.get! 3, u.get! 4, u.get! 5, u.get! 6, u.get! 7] = q := ⟨_, rfl⟩
                    have lB0 : B0 < 18446744073709551616 := hB0 ▸ Lib.word_lt u
                    have cB0 : ∀ W, Calls Tryz.prog 134 #[.string u] W fun e w' => e = .returned (.int .u64 B0) ∧ ∃ q, w' = W.drewN q := fun W => by rw [← hB0]; exact Any.utf8_word { Tryz.laysValid with } u W (by omega)
                    have kB0 := Lib.word_asc u (by omega)
                    rw [hB0] at kB0
                    obtain ⟨B1, hB1⟩ : ∃ q, Lib.leNat [ub.get! 0, ub.get! 1, ub.get! 2, ub.get! 3, ub.get! 4, ub.get! 5, ub.get! 6, ub.get! 7] = q := ⟨_, rfl⟩
                    have lB1 : B1 < 18446744073709551616 := hB1 ▸ Lib.word_lt ub
                    have cB1 : ∀ W, Calls Tryz.prog 134 #[.string ub] W fun e w' => e = .returned (.int .u64 B1) ∧ ∃ q, w' = W.drewN q := fun W => by rw [← hB1]; exact Any.utf8_word { Tryz.laysValid with } ub W (by omega)
                    have kB1 := Lib.word_asc ub (by omega)
                    rw [hB1] at kB1
                    obtain ⟨B2, hB2⟩ : ∃ q, Lib.leNat [uc.get! 0, uc.get! 1, uc.get! 2, uc.get! 3, uc.get! 4, uc.get! 5, uc.get! 6, uc.get! 7] = q := ⟨_, rfl⟩
                    have lB2 : B2 < 18446744073709551616 := hB2 ▸ Lib.word_lt uc
                    have cB2 : ∀ W, Calls Tryz.prog 134 #[.string uc] W fun e w' => e = .returned (.int .u64 B2) ∧ ∃ q, w' = W.drewN q := fun W => by rw [← hB2]; exact Any.utf8_word { Tryz.laysValid with } uc W (by omega)
                    have kB2 := Lib.word_asc uc (by omega)
                    rw [hB2] at kB2
                    obtain ⟨B3, hB3⟩ : ∃ q, Lib.leNat [ud.get! 0, ud.get! 1, ud.get! 2, ud.get! 3, ud.get! 4, ud.get! 5, ud.get! 6, ud.get! 7] = q := ⟨_, rfl⟩
                    have lB3 : B3 < 18446744073709551616 := hB3 ▸ Lib.word_lt ud
                    have cB3 : ∀ W, Calls Tryz.prog 134 #[.string ud] W fun e w' => e = .returned (.int .u64 B3) ∧ ∃ q, w' = W.drewN q := fun W => by rw [← hB3]; exact Any.utf8_word { Tryz.laysValid with } ud W (by omega)
                    have kB3 := Lib.word_asc ud (by omega)
                    rw [hB3] at kB3
                    have ho1 : bits .or .u64 (B0 : Int) (B1 : Int) = ((B0 ||| B1 : Nat) : Int) := u64_or_nat B0 B1 lB0 lB1
                    have ho2 : bits .or .u64 (B2 : Int) (B3 : Int) = ((B2 ||| B3 : Nat) : Int) := u64_or_nat B2 B3 lB2 lB3
                    have lo1 : B0 ||| B1 < 18446744073709551616 := Nat.or_lt_two_pow (n := 64) lB0 lB1
                    have lo2 : B2 ||| B3 < 18446744073709551616 := Nat.or_lt_two_pow (n := 64) lB2 lB3
                    have hm1 := Lib.or_mask B0 B1 9259542123273814144
                    have hm2 := Lib.or_mask B2 B3 9259542123273814144
                    obtain ⟨P1, hP1⟩ : ∃ q, B0 ||| B1 = q := ⟨_, rfl⟩
                    obtain ⟨P2, hP2⟩ : ∃ q, B2 ||| B3 = q := ⟨_, rfl⟩
                    rw [hP1] at ho1 lo1 hm1
                    rw [hP2] at ho2 lo2 hm2
                    have ho3 : bits .or .u64 (P1 : Int) (P2 : Int) = ((P1 ||| P2 : Nat) : Int) := u64_or_nat _ _ lo1 lo2
                    have lo3 : P1 ||| P2 < 18446744073709551616 := Nat.or_lt_two_pow (n := 64) lo1 lo2
                    have hm3 := Lib.or_mask P1 P2 9259542123273814144
                    obtain ⟨P3, hP3⟩ : ∃ q, P1 ||| P2 = q := ⟨_, rfl⟩
                    rw [hP3] at ho3 lo3 hm3
                    have hand3 : bits .and .u64 (P3 : Int) 9259542123273814144 = ((P3 &&& 9259542123273814144 : Nat) : Int) := u64_and_nat _ 9259542123273814144 lo3 (by omega)
                    have k3 : P3 &&& 9259542123273814144 = 0 → Lib.Asc u 32 := fun q => by
                      obtain ⟨e01, e23⟩ := hm3.1 q
                      have s16 : Lib.Asc u 16 := Lib.asc_add u 8 8 (kB0.1 (hm1.1 e01).1) (by rw [hub]; exact kB1.1 (hm1.1 e01).2)
                      have s24 : Lib.Asc u 24 := Lib.asc_add u 16 8 s16 (by rw [huc]; exact kB2.1 (hm2.1 e23).1)
                      exact Lib.asc_add u 24 8 s24 (by rw [hud]; exact kB3.1 (hm2.1 e23).2)
                    obtain ⟨Z3, hZ3⟩ : ∃ q, P3 &&& 9259542123273814144 = q := ⟨_, rfl⟩
                    rw [hZ3] at hand3 k3
                    clear kB0 kB1 kB2 kB3 lo1 lo2 lo3 hm1 hm2 hm3 hP1 hP2 hP3 hZ3
                    by_cases hz3 : Z3 = 0
                    case neg =>
                      have hz3b : ((Z3 : Int) == 0) = false := by simp; omega
                      go_wp2_with fail
                      go_big_quiet_o (first | (go_at_call 134; with_reducible refine Calls.quiet_of (cB0 _)) | (go_at_call 134; with_reducible refine Calls.quiet_of (cB1 _)) | (go_at_call 134; with_reducible refine Calls.quiet_of (cB2 _)) | (go_at_call 134; with_reducible refine Calls.quiet_of (cB3 _)))
                      go_wp2
                      go_roundg g'
                      case measure => omega
                      case rel => exact ⟨hbu.drewN nq, u, rfl, vu, by omega, by omega⟩
                    case pos =>
                      have hz3b : ((Z3 : Int) == 0) = true := by simp [hz3]
                      obtain ⟨u2, hu2⟩ : ∃ q, u.extract 32 u.size = q := ⟨_, rfl⟩
                      have zu2 : u2.size + 32 = u.size := by rw [← hu2, Lib.ext_size]; omega
                      have vu2 : valT T u2.data.toList = ANS := by rw [← hu2, valT_ext T u 32 (k3 hz3)]; exact vu
                      clear k3
                      go_wp2_with fail
                      go_big_quiet_o (first | (go_at_call 134; with_reducible refine Calls.quiet_of (cB0 _)) | (go_at_call 134; with_reducible refine Calls.quiet_of (cB1 _)) | (go_at_call 134; with_reducible refine Calls.quiet_of (cB2 _)) | (go_at_call 134; with_reducible refine Calls.quiet_of (cB3 _)))
                      go_wp2
                      go_roundg g3
                      case measure => omega
                      case rel => exact ⟨hbu.drewN nq, u2, rfl, vu2, by omega, by omega⟩
      · have hascz : ¬ ((x0.toNat : Int) < 128) := by omega
        have hlead := valT_lead T t h0 (by rw [hx0]; omega)
        obtain ⟨x1, hx1⟩ : ∃ q, t.get! 1 = q := ⟨_, rfl⟩
        obtain ⟨x2, hx2⟩ : ∃ q, t.get! 2 = q := ⟨_, rfl⟩
        obtain ⟨x3, hx3⟩ : ∃ q, t.get! 3 = q := ⟨_, rfl⟩
        rw [hx0, hx1, hx2, hx3, hv] at hlead
        have hc0 := hTr.first x0.toNat hx0lt
        have hXlt := T.small x0.toNat
        obtain ⟨X, hX⟩ : ∃ q, T.tf x0.toNat = q := ⟨_, rfl⟩
        rw [hX] at hc0 hXlt hlead
        have h7 := and7 ⟨X, hXlt⟩
        simp only at h7
        have ha0 := hTr.low (X / 16) (by omega)
        have ha1 := hTr.high (X / 16) (by omega)
        obtain ⟨LO, hLO⟩ : ∃ q, T.lo (X / 16) = q := ⟨_, rfl⟩
        obtain ⟨HI, hHI⟩ : ∃ q, T.hi (X / 16) = q := ⟨_, rfl⟩
        rw [hLO] at ha0 hlead
        rw [hHI] at ha1 hlead
        obtain ⟨SZ, hSZ⟩ : ∃ q, X % 8 = q := ⟨_, rfl⟩
        rw [hSZ] at hlead
        clear hTr hT hX hv hLO hHI
        by_cases s2 : SZ = 2
        case pos =>
          subst s2
          have hSZz : (X : Int) % 8 = 2 := by omega
          simp only [Nat.reduceEqDiff, if_true, if_false] at hlead
          by_cases q0 : t.size < 2
          case pos =>
            have q0z : (t.size : Int) < 2 := by omega
            have q0b : decide ((t.size : Int) < 2) = true := decide_eq_true q0z
            have hbad : t.size < 2 ∨ x1.toNat < LO ∨ HI < x1.toNat := by omega
            rw [if_pos hbad] at hlead
            clear hbad
            go_wp2_with fail
            go_big_quiet_o (fail)
            go_wp2
            all_goals (go_ret; exact ⟨by first | rfl | (rw [hlead]; rfl), (hkw.alloc _).drewN _⟩)
          case neg =>
          have q0z : ¬ ((t.size : Int) < 2) := by omega
          have q0b : decide ((t.size : Int) < 2) = false := decide_eq_false q0z
          have hz1 : (1 : Int) < (t.size : Int) := by omega
          have hp1 : 1 < t.size := by omega
          have hs1 : t[1]'(by omega) = x1 := by rw [← hx1]; exact (Utf8W.get!_of_lt t 1 (by omega)).symm
          by_cases q1 : x1.toNat < LO
          case pos =>
            have q1z : (x1.toNat : Int) < (LO : Int) := by omega
            have q1b : decide ((x1.toNat : Int) < (LO : Int)) = true := decide_eq_true q1z
            have hbad : t.size < 2 ∨ x1.toNat < LO ∨ HI < x1.toNat := by omega
            rw [if_pos hbad] at hlead
            clear hbad
            go_wp2_with fail
            go_big_quiet_o (fail)
            go_wp2
            all_goals (go_ret; exact ⟨by first | rfl | (rw [hlead]; rfl), (hkw.alloc _).drewN _⟩)
          case neg =>
          have q1z : ¬ ((x1.toNat : Int) < (LO : Int)) := by omega
          have q1b : decide ((x1.toNat : Int) < (LO : Int)) = false := decide_eq_false q1z
          by_cases q2 : HI < x1.toNat
          case pos =>
            have q2z : (HI : Int) < (x1.toNat : Int) := by omega
            have q2b : decide ((HI : Int) < (x1.toNat : Int)) = true := decide_eq_true q2z
            have hbad : t.size < 2 ∨ x1.toNat < LO ∨ HI < x1.toNat := by omega
            rw [if_pos hbad] at hlead
            clear hbad
            go_wp2_with fail
            go_big_quiet_o (fail)
            go_wp2
            all_goals (go_ret; exact ⟨by first | rfl | (rw [hlead]; rfl), (hkw.alloc _).drewN _⟩)
          case neg =>
          have q2z : ¬ ((HI : Int) < (x1.toNat : Int)) := by omega
          have q2b : decide ((HI : Int) < (x1.toNat : Int)) = false := decide_eq_false q2z
          have hgood : ¬ (t.size < 2 ∨ x1.toNat < LO ∨ HI < x1.toNat) := by omega
          rw [if_neg hgood] at hlead
          clear hgood
          go_wp2_with fail
          go_big_quiet_o (fail)
          go_wp2
          go_roundg g'
          case measure => omega
          case rel => exact ⟨(hkw.alloc _).drewN _, _, rfl, hlead.symm, by rw [Lib.ext_size]; omega, by rw [Lib.ext_size]; omega⟩
        case neg =>
        by_cases s3 : SZ = 3
        case pos =>
          subst s3
          have hSZz : (X : Int) % 8 = 3 := by omega
          simp only [Nat.reduceEqDiff, if_true, if_false] at hlead
          by_cases q0 : t.size < 3
          case pos =>
            have q0z : (t.size : Int) < 3 := by omega
            have q0b : decide ((t.size : Int) < 3) = true := decide_eq_true q0z
            have hbad : t.size < 3 ∨ x1.toNat < LO ∨ HI < x1.toNat ∨ x2.toNat < 128 ∨ 191 < x2.toNat := by omega
            rw [if_pos hbad] at hlead
            clear hbad
            go_wp2_with fail
            go_big_quiet_o (fail)
            go_wp2
            all_goals (go_ret; exact ⟨by first | rfl | (rw [hlead]; rfl), (hkw.alloc _).drewN _⟩)
          case neg =>
          have q0z : ¬ ((t.size : Int) < 3) := by omega
          have q0b : decide ((t.size : Int) < 3) = false := decide_eq_false q0z
          have hz1 : (1 : Int) < (t.size : Int) := by omega
          have hp1 : 1 < t.size := by omega
          have hs1 : t[1]'(by omega) = x1 := by rw [← hx1]; exact (Utf8W.get!_of_lt t 1 (by omega)).symm
          have hz2 : (2 : Int) < (t.size : Int) := by omega
          have hp2 : 2 < t.size := by omega
          have hs2 : t[2]'(by omega) = x2 := by rw [← hx2]; exact (Utf8W.get!_of_lt t 2 (by omega)).symm
          by_cases q1 : x1.toNat < LO
          case pos =>
            have q1z : (x1.toNat : Int) < (LO : Int) := by omega
            have q1b : decide ((x1.toNat : Int) < (LO : Int)) = true := decide_eq_true q1z
            have hbad : t.size < 3 ∨ x1.toNat < LO ∨ HI < x1.toNat ∨ x2.toNat < 128 ∨ 191 < x2.toNat := by omega
            rw [if_pos hbad] at hlead
            clear hbad
            go_wp2_with fail
            go_big_quiet_o (fail)
            go_wp2
            all_goals (go_ret; exact ⟨by first | rfl | (rw [hlead]; rfl), (hkw.alloc _).drewN _⟩)
          case neg =>
          have q1z : ¬ ((x1.toNat : Int) < (LO : Int)) := by omega
          have q1b : decide ((x1.toNat : Int) < (LO : Int)) = false := decide_eq_false q1z
          by_cases q2 : HI < x1.toNat
          case pos =>
            have q2z : (HI : Int) < (x1.toNat : Int) := by omega
            have q2b : decide ((HI : Int) < (x1.toNat : Int)) = true := decide_eq_true q2z
            have hbad : t.size < 3 ∨ x1.toNat < LO ∨ HI < x1.toNat ∨ x2.toNat < 128 ∨ 191 < x2.toNat := by omega
            rw [if_pos hbad] at hlead
            clear hbad
            go_wp2_with fail
            go_big_quiet_o (fail)
            go_wp2
            all_goals (go_ret; exact ⟨by first | rfl | (rw [hlead]; rfl), (hkw.alloc _).drewN _⟩)
          case neg =>
          have q2z : ¬ ((HI : Int) < (x1.toNat : Int)) := by omega
          have q2b : decide ((HI : Int) < (x1.toNat : Int)) = false := decide_eq_false q2z
          by_cases q3 : x2.toNat < 128
          case pos =>
            have q3z : (x2.toNat : Int) < 128 := by omega
            have q3b : decide ((x2.toNat : Int) < 128) = true := decide_eq_true q3z
            have hbad : t.size < 3 ∨ x1.toNat < LO ∨ HI < x1.toNat ∨ x2.toNat < 128 ∨ 191 < x2.toNat := by omega
            rw [if_pos hbad] at hlead
            clear hbad
            go_wp2_with fail
            go_big_quiet_o (fail)
            go_wp2
            all_goals (go_ret; exact ⟨by first | rfl | (rw [hlead]; rfl), (hkw.alloc _).drewN _⟩)
          case neg =>
          have q3z : ¬ ((x2.toNat : Int) < 128) := by omega
          have q3b : decide ((x2.toNat : Int) < 128) = false := decide_eq_false q3z
          by_cases q4 : 191 < x2.toNat
          case pos =>
            have q4z : 191 < (x2.toNat : Int) := by omega
            have q4b : decide (191 < (x2.toNat : Int)) = true := decide_eq_true q4z
            have hbad : t.size < 3 ∨ x1.toNat < LO ∨ HI < x1.toNat ∨ x2.toNat < 128 ∨ 191 < x2.toNat := by omega
            rw [if_pos hbad] at hlead
            clear hbad
            go_wp2_with fail
            go_big_quiet_o (fail)
            go_wp2
            all_goals (go_ret; exact ⟨by first | rfl | (rw [hlead]; rfl), (hkw.alloc _).drewN _⟩)
          case neg =>
          have q4z : ¬ (191 < (x2.toNat : Int)) := by omega
          have q4b : decide (191 < (x2.toNat : Int)) = false := decide_eq_false q4z
          have hgood : ¬ (t.size < 3 ∨ x1.toNat < LO ∨ HI < x1.toNat ∨ x2.toNat < 128 ∨ 191 < x2.toNat) := by omega
          rw [if_neg hgood] at hlead
          clear hgood
          go_wp2_with fail
          go_big_quiet_o (fail)
          go_wp2
          go_roundg g'
          case measure => omega
          case rel => exact ⟨(hkw.alloc _).drewN _, _, rfl, hlead.symm, by rw [Lib.ext_size]; omega, by rw [Lib.ext_size]; omega⟩
        case neg =>
        by_cases s4 : SZ = 4
        case pos =>
          subst s4
          have hSZz : (X : Int) % 8 = 4 := by omega
          simp only [Nat.reduceEqDiff, if_true, if_false] at hlead
          by_cases q0 : t.size < 4
          case pos =>
            have q0z : (t.size : Int) < 4 := by omega
            have q0b : decide ((t.size : Int) < 4) = true := decide_eq_true q0z
            have hbad : t.size < 4 ∨ x1.toNat < LO ∨ HI < x1.toNat ∨ x2.toNat < 128 ∨ 191 < x2.toNat ∨ x3.toNat < 128 ∨ 191 < x3.toNat := by omega
            rw [if_pos hbad] at hlead
            clear hbad
            go_wp2_with fail
            go_big_quiet_o (fail)
            go_wp2
            all_goals (go_ret; exact ⟨by first | rfl | (rw [hlead]; rfl), (hkw.alloc _).drewN _⟩)
          case neg =>
          have q0z : ¬ ((t.size : Int) < 4) := by omega
          have q0b : decide ((t.size : Int) < 4) = false := decide_eq_false q0z
          have hz1 : (1 : Int) < (t.size : Int) := by omega
          have hp1 : 1 < t.size := by omega
          have hs1 : t[1]'(by omega) = x1 := by rw [← hx1]; exact (Utf8W.get!_of_lt t 1 (by omega)).symm
          have hz2 : (2 : Int) < (t.size : Int) := by omega
          have hp2 : 2 < t.size := by omega
          have hs2 : t[2]'(by omega) = x2 := by rw [← hx2]; exact (Utf8W.get!_of_lt t 2 (by omega)).symm
          have hz3 : (3 : Int) < (t.size : Int) := by omega
          have hp3 : 3 < t.size := by omega
          have hs3 : t[3]'(by omega) = x3 := by rw [← hx3]; exact (Utf8W.get!_of_lt t 3 (by omega)).symm
          by_cases q1 : x1.toNat < LO
          case pos =>
            have q1z : (x1.toNat : Int) < (LO : Int) := by omega
            have q1b : decide ((x1.toNat : Int) < (LO : Int)) = true := decide_eq_true q1z
            have hbad : t.size < 4 ∨ x1.toNat < LO ∨ HI < x1.toNat ∨ x2.toNat < 128 ∨ 191 < x2.toNat ∨ x3.toNat < 128 ∨ 191 < x3.toNat := by omega
            rw [if_pos hbad] at hlead
            clear hbad
            go_wp2_with fail
            go_big_quiet_o (fail)
            go_wp2
            all_goals (go_ret; exact ⟨by first | rfl | (rw [hlead]; rfl), (hkw.alloc _).drewN _⟩)
          case neg =>
          have q1z : ¬ ((x1.toNat : Int) < (LO : Int)) := by omega
          have q1b : decide ((x1.toNat : Int) < (LO : Int)) = false := decide_eq_false q1z
          by_cases q2 : HI < x1.toNat
          case pos =>
            have q2z : (HI : Int) < (x1.toNat : Int) := by omega
            have q2b : decide ((HI : Int) < (x1.toNat : Int)) = true := decide_eq_true q2z
            have hbad : t.size < 4 ∨ x1.toNat < LO ∨ HI < x1.toNat ∨ x2.toNat < 128 ∨ 191 < x2.toNat ∨ x3.toNat < 128 ∨ 191 < x3.toNat := by omega
            rw [if_pos hbad] at hlead
            clear hbad
            go_wp2_with fail
            go_big_quiet_o (fail)
            go_wp2
            all_goals (go_ret; exact ⟨by first | rfl | (rw [hlead]; rfl), (hkw.alloc _).drewN _⟩)
          case neg =>
          have q2z : ¬ ((HI : Int) < (x1.toNat : Int)) := by omega
          have q2b : decide ((HI : Int) < (x1.toNat : Int)) = false := decide_eq_false q2z
          by_cases q3 : x2.toNat < 128
          case pos =>
            have q3z : (x2.toNat : Int) < 128 := by omega
            have q3b : decide ((x2.toNat : Int) < 128) = true := decide_eq_true q3z
            have hbad : t.size < 4 ∨ x1.toNat < LO ∨ HI < x1.toNat ∨ x2.toNat < 128 ∨ 191 < x2.toNat ∨ x3.toNat < 128 ∨ 191 < x3.toNat := by omega
            rw [if_pos hbad] at hlead
            clear hbad
            go_wp2_with fail
            go_big_quiet_o (fail)
            go_wp2
            all_goals (go_ret; exact ⟨by first | rfl | (rw [hlead]; rfl), (hkw.alloc _).drewN _⟩)
          case neg =>
          have q3z : ¬ ((x2.toNat : Int) < 128) := by omega
          have q3b : decide ((x2.toNat : Int) < 128) = false := decide_eq_false q3z
          by_cases q4 : 191 < x2.toNat
          case pos =>
            have q4z : 191 < (x2.toNat : Int) := by omega
            have q4b : decide (191 < (x2.toNat : Int)) = true := decide_eq_true q4z
            have hbad : t.size < 4 ∨ x1.toNat < LO ∨ HI < x1.toNat ∨ x2.toNat < 128 ∨ 191 < x2.toNat ∨ x3.toNat < 128 ∨ 191 < x3.toNat := by omega
            rw [if_pos hbad] at hlead
            clear hbad
            go_wp2_with fail
            go_big_quiet_o (fail)
            go_wp2
            all_goals (go_ret; exact ⟨by first | rfl | (rw [hlead]; rfl), (hkw.alloc _).drewN _⟩)
          case neg =>
          have q4z : ¬ (191 < (x2.toNat : Int)) := by omega
          have q4b : decide (191 < (x2.toNat : Int)) = false := decide_eq_false q4z
          by_cases q5 : x3.toNat < 128
          case pos =>
            have q5z : (x3.toNat : Int) < 128 := by omega
            have q5b : decide ((x3.toNat : Int) < 128) = true := decide_eq_true q5z
            have hbad : t.size < 4 ∨ x1.toNat < LO ∨ HI < x1.toNat ∨ x2.toNat < 128 ∨ 191 < x2.toNat ∨ x3.toNat < 128 ∨ 191 < x3.toNat := by omega
            rw [if_pos hbad] at hlead
            clear hbad
            go_wp2_with fail
            go_big_quiet_o (fail)
            go_wp2
            all_goals (go_ret; exact ⟨by first | rfl | (rw [hlead]; rfl), (hkw.alloc _).drewN _⟩)
          case neg =>
          have q5z : ¬ ((x3.toNat : Int) < 128) := by omega
          have q5b : decide ((x3.toNat : Int) < 128) = false := decide_eq_false q5z
          by_cases q6 : 191 < x3.toNat
          case pos =>
            have q6z : 191 < (x3.toNat : Int) := by omega
            have q6b : decide (191 < (x3.toNat : Int)) = true := decide_eq_true q6z
            have hbad : t.size < 4 ∨ x1.toNat < LO ∨ HI < x1.toNat ∨ x2.toNat < 128 ∨ 191 < x2.toNat ∨ x3.toNat < 128 ∨ 191 < x3.toNat := by omega
            rw [if_pos hbad] at hlead
            clear hbad
            go_wp2_with fail
            go_big_quiet_o (fail)
            go_wp2
            all_goals (go_ret; exact ⟨by first | rfl | (rw [hlead]; rfl), (hkw.alloc _).drewN _⟩)
          case neg =>
          have q6z : ¬ (191 < (x3.toNat : Int)) := by omega
          have q6b : decide (191 < (x3.toNat : Int)) = false := decide_eq_false q6z
          have hgood : ¬ (t.size < 4 ∨ x1.toNat < LO ∨ HI < x1.toNat ∨ x2.toNat < 128 ∨ 191 < x2.toNat ∨ x3.toNat < 128 ∨ 191 < x3.toNat) := by omega
          rw [if_neg hgood] at hlead
          clear hgood
          go_wp2_with fail
          go_big_quiet_o (fail)
          go_wp2
          go_roundg g'
          case measure => omega
          case rel => exact ⟨(hkw.alloc _).drewN _, _, rfl, hlead.symm, by rw [Lib.ext_size]; omega, by rw [Lib.ext_size]; omega⟩
        case neg =>
        rw [if_neg s2, if_neg s3, if_neg s4] at hlead
        have s2z : ¬ ((X : Int) % 8 = 2) := by omega
        have s3z : ¬ ((X : Int) % 8 = 3) := by omega
        have s4z : ¬ ((X : Int) % 8 = 4) := by omega
        have s2b : ((X : Int) % 8 == 2) = false := by simp; omega
        have s3b : ((X : Int) % 8 == 3) = false := by simp; omega
        have s4b : ((X : Int) % 8 == 4) = false := by simp; omega
        go_wp2
        go_ret
        exact ⟨by first | rfl | (rw [hlead]; rfl), hkw.alloc _⟩
    · have h0z : ¬ ((0 : Int) < (t.size : Int)) := by omega
      have he : t.data.toList = [] := List.eq_nil_of_length_eq_zero (by rw [← Lib.size_eq]; omega)
      rw [he, valT_nil] at hv
      go_wp2
      go_ret
      exact ⟨by first | rfl | (rw [← hv]; rfl), hkw⟩
end Go.Proofs.YtddhhjgegkkjbaaGreatDoor
