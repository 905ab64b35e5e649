/-
  PLAIN MATHEMATICS: a delta is bytes.
-/
import Derived.Test.YtloajfhggkgngaaMk0
namespace Go.Proofs.Ytloajfhggkgngaa
open Go.RowKit

theorem octs_cd {bs : List Int} {c : Cd} (hc : c.ok bs) (hb : bs.length ≤ 65536) (ht : (c.txt bs).length ≤ 65536) (hot : Octs (c.txt bs)) : Octs c.enc := by
  cases c with
  | new t =>
    have ht' : t.length ≤ 65536 := ht
    intro u hu
    rcases List.mem_append.1 hu with h | h
    · exact varB_octs _ (by omega) (by omega) u h
    · exact hot u h
  | cp st n =>
    obtain ⟨h1, h2⟩ := hc
    intro u hu
    rcases List.mem_append.1 hu with h | h
    · exact varB_octs _ (by omega) (by omega) u h
    · exact varB_octs _ (by omega) (by omega) u h
theorem octs_del (bs ts : List Int) (cs : List Cd) (hb : bs.length ≤ 65536) (ht : ts.length ≤ 65536) (hot : Octs ts) (hok : ∀ c, c ∈ cs → c.ok bs) (htx : txts bs cs = ts) : Octs (delL bs ts cs) := by
  intro u hu
  unfold delL at hu
  rcases List.mem_append.1 hu with h | h
  · rcases List.mem_append.1 h with h | h
    · exact varB_octs _ (by omega) (by omega) u h
    · exact varB_octs _ (by omega) (by omega) u h
  · unfold encs at h
    obtain ⟨c, hc, hcu⟩ := List.mem_flatMap.1 h
    have hsub : ∀ v, v ∈ c.txt bs → v ∈ ts := fun v hv => by rw [← htx]; exact List.mem_flatMap.2 ⟨c, hc, hv⟩
    have hlen : (c.txt bs).length ≤ ts.length := by
      rw [← htx]
      unfold txts
      obtain ⟨s, t, rfl⟩ := List.append_of_mem hc
      simp only [List.flatMap_append, List.flatMap_cons, List.length_append]
      omega
    exact octs_cd (hok c hc) hb (by omega) (fun v hv => hot v (hsub v hv)) u hcu
end Go.Proofs.Ytloajfhggkgngaa
