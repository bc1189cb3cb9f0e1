/-
  Package tree: the law's large, the document's own Merge.
-/
import Derived.Test.YtjcinhlghlcknaaTre
import Derived.Deep.RegionLaw
namespace Go.Proofs.Ytjcinhlghlcknaa
open Go.RowKit

def lrg (ls : List (List Pr)) : Bool := decide (100 < ls.length) || decide (2000 < tot ls)
theorem LsAt.at {U : Nat} {w : World} {A : Option Addr} {ls : List (List Pr)} (h : LsAt U w A ls) {i : Nat} (hi : i < ls.length) :
    ∃ (b off : Nat) (A' : Option Addr) (c' : Nat), A = some ⟨b, off, none⟩ ∧ b < U ∧ w.cell? ⟨b, off + i, none⟩ = some (.slice A' (ls.getD i []).length c') ∧ (ls.getD i []).length ≤ c' ∧ PAt U w A' (ls.getD i []) := by
  rcases h with h | ⟨b, off, vs, hA, hlt, hu, hv, hc⟩
  · subst h; simp at hi
  · have hl := hv.1
    have hiv : i < vs.length := by omega
    have hg : ls.getD i [] = ls[i] := by rw [List.getD_eq_getElem?_getD, List.getElem?_eq_getElem hi, Option.getD_some]
    obtain ⟨A', c', e1, e2, e3, e4⟩ := hv.2 i _ _ (List.getElem?_eq_getElem hiv) (List.getElem?_eq_getElem hi)
    rw [hg]
    exact ⟨b, off, A', c', hA, hlt, by rw [hc i _ (List.getElem?_eq_getElem hiv), e1], e2, e4⟩
theorem tot_take {ls : List (List Pr)} {i : Nat} (hi : i < ls.length) : tot (ls.take (i + 1)) = tot (ls.take i) + (ls.getD i []).length := by
  unfold tot
  rw [List.take_succ_eq_append_getElem hi, List.map_append, List.sum_append, List.getD_eq_getElem?_getD, List.getElem?_eq_getElem hi]
  simp
theorem tot_le {ls : List (List Pr)} {K : Nat} (h : ∀ r ∈ ls, r.length ≤ K) : tot ls ≤ ls.length * K := by
  induction ls with
  | nil => simp [tot]
  | cons r ls ih =>
    have h1 := ih (fun q hq => h q (by simp [hq]))
    have h2 := h r (by simp)
    simp only [tot, List.map_cons, List.sum_cons, List.length_cons] at h1 ⊢
    rw [Nat.add_mul]; omega
section
variable {w : World}
set_option maxRecDepth 100000 in
set_option maxHeartbeats 2000000 in
theorem large8_any {A : Option Addr} {c : Nat} {ls : List (List Pr)} (h : LsAt w.heap.size w A ls) (hz : ∀ r ∈ ls, r.length * 16 ≤ 140737488351232) (hl : ls.length ≤ 9223372036854775807) :
    Calls Try.prog 14 #[.slice A ls.length c] w fun e w' => e = .returned (.bool (lrg ls)) ∧ w = w' := by
  by_cases h1 : 100 < ls.length
  · have HF := Lib.hid (show lrg ls = true by simp [lrg, h1])
    clear h hz
    go_enter Try.func14, Try.ntmps14
    go_wp2_with fail
    go_ret
    exact ⟨ret_bool HF.out.symm, rfl⟩
  · have HF := Lib.hid (show lrg ls = decide (2000 < tot ls) by simp [lrg, h1])
    have HL := Lib.hid h
    have HZ := Lib.hid (show ∀ j, tot (ls.take j) ≤ 879609302195200 from fun j => by
      have h2 := tot_le (ls := ls.take j) (K := 8796093021952) (fun r hr => by have := hz r (List.mem_of_mem_take hr); omega)
      have h3 : (ls.take j).length ≤ 100 := by simp; omega
      have h4 : (ls.take j).length * 8796093021952 ≤ 100 * 8796093021952 := Nat.mul_le_mul_right _ h3
      omega)
    have HZ1 := Lib.hid (show ∀ j, j < ls.length → (ls.getD j []).length ≤ 8796093021952 from fun j hj => by
      rw [List.getD_eq_getElem?_getD, List.getElem?_eq_getElem hj, Option.getD_some]
      have := hz _ (List.getElem_mem hj); omega)
    obtain ⟨N, hN⟩ : ∃ N, N = ls.length := ⟨_, rfl⟩
    rw [← hN] at h1 hl ⊢
    have HN := Lib.hid hN
    clear h hz hN
    go_enter Try.func14, Try.ntmps14
    go_wp2_with fail
    go_loop [3, 4] (fun s i => ∃ (j : Nat) (t : Nat), j ≤ N ∧ i = .int .i64 j ∧ s = .int .i64 t ∧ Hid (t = tot (ls.take j))) (fun _ i => N - (intOf i).toNat)
    case atStart => exact ⟨0, 0, Nat.zero_le _, rfl, rfl, Lib.hid (by simp [tot])⟩
    case round =>
      obtain ⟨j, t, hj, rfl, rfl, HT⟩ := hrel
      have ht : t ≤ 879609302195200 := by rw [HT.out]; exact HZ.out j
      by_cases hlt : j < N
      · have hjl : j < ls.length := by have := HN.out; omega
        obtain ⟨b, off, A', c', rfl, hb, hc, _, _⟩ := HL.out.at hjl
        have HS := Lib.hid (tot_take hjl)
        have hr := HZ1.out j hjl
        generalize (ls.getD j []).length = r at hc HS hr
        clear hb hjl
        go_wp2_with fail
        go_round
        case rel => exact ⟨j + 1, t + r, by omega, by go_num, by go_num, Lib.hid (by rw [HS.out, HT.out])⟩
        case measure => simp [intOf]; omega
      · have HE := Lib.hid (show t = tot ls by rw [HT.out, List.take_of_length_le (by have := HN.out; omega)])
        go_wp2_with fail
        go_ret
        exact ⟨ret_bool (by rw [HF.out, ← HE.out]; simp; omega), rfl⟩
end
end Go.Proofs.Ytjcinhlghlcknaa
