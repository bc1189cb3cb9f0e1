/-
  DiskDoes: the document's own New.
-/
import Derived.Test.YthimgldohhaimabDr6
import Derived.Laws.AppendOwnNone
namespace Go.Proofs.Ythimgldohhaimab
open Go.RowKit Go.Maps Go.Sort

theorem addr_addR (b o j : Nat) : (⟨b, o, none⟩ : Addr).add j = ⟨b, o + j, none⟩ := by unfold Addr.add; split <;> simp_all
theorem info_intR : (Try.prog.info? 3).map (fun i => (i.zero, i.size, i.bytes)) = some (some (.int .i64 0), 1, 8) := by kernel_rfl
def xdNew (room : Int) (fa : List Int) : Xd := ⟨room, fa, [], 0, 0, 0, 0, 0, 0⟩
def RNewEnd (w : World) (room : Int) (fa : List Int) (e : Ending) (w' : World) : Prop :=
  Below w.heap.size w w' ∧ if 0 ≤ room ∧ room ≤ 16384 then ∃ x vF, e = .returned (.pointer (some ⟨x, 0, none⟩)) ∧ XdAt w.heap.size w' x vF (.slice none 0 0) (xdNew room fa)
    else e = .returned (.pointer none)
theorem xd_new {w w3 : World} {room : Int} {fa : List Int} {vF : Value} {x : Nat} (hx : x = w3.heap.size) (hl : fa.length ≤ 1000) (hb : Below w.heap.size w w3) (ho : w3.ownsRow w.heap.size 3 1 vF fa.length (fa.map (Value.int .i64))) :
    XdAt w.heap.size (w3.alloc (.cells ((xdNew room fa).box vF (.slice none 0 0)) 57)) x vF (.slice none 0 0) (xdNew room fa) ∧ Below w.heap.size w (w3.alloc (.cells ((xdNew room fa).box vF (.slice none 0 0)) 57)) := by
  subst hx
  have h3 := ba w3 (.cells ((xdNew room fa).box vF (.slice none 0 0)) 57)
  refine ⟨⟨(MapKept.heap_alloc w3 _).1, ownsRow_same ho fun k hk => h3.block k (ho.lt k hk).2, World.ownsRow_nil _ _ _ _, fun f hf => absurd hf List.not_mem_nil, fun f hf => absurd hf List.not_mem_nil, List.Pairwise.nil, fun f hf => absurd hf List.not_mem_nil, ⟨Nat.zero_le _, hl, fun f hf => absurd hf List.not_mem_nil⟩, ⟨Int.le_refl _, Int.le_refl _, Int.le_refl _, Int.le_refl _⟩, hb.size⟩, hb.trans (h3.mono hb.size)⟩
set_option maxRecDepth 100000 in
set_option maxHeartbeats 4000000 in
theorem rnew_any (room : Int) (A : Option Addr) (c : Nat) (fa : List Int) (w : World) (hA : NumsAt w A fa) (hc : A = none → c = 0) (hl : fa.length ≤ 1000) :
    Calls Try.prog 6 #[.int .i64 room, .slice A fa.length c] w (RNewEnd w room fa) := by
  by_cases h0 : room < 0
  · have HN := Lib.hid (show ¬ (0 ≤ room ∧ room ≤ 16384) by omega)
    have _u : True := (fun _ _ _ => trivial) hA hc hl
    clear hA hc hl
    go_enter Try.func6, Try.ntmps6
    go_wp2_with fail
    go_ret
    refine ⟨Below.refl _ _, ?_⟩
    rw [if_neg HN.out]
    rfl
  · by_cases h1 : 16384 < room
    · have HN := Lib.hid (show ¬ (0 ≤ room ∧ room ≤ 16384) by omega)
      clear hA hc hl
      go_enter Try.func6, Try.ntmps6
      go_wp2_with fail
      go_ret
      refine ⟨Below.refl _ _, ?_⟩
      rw [if_neg HN.out]
      rfl
    · have HN := Lib.hid (show 0 ≤ room ∧ room ≤ 16384 by omega)
      have h0b : decide (room < 0) = false := decide_eq_false h0
      have h1b : decide (16384 < room) = false := decide_eq_false h1
      obtain ⟨M, hM⟩ : ∃ M, M = fa.length := ⟨_, rfl⟩
      have hM1 : M ≤ 1000 := by omega
      rw [← hM]
      have hE := ba w (.cells #[] 3)
      have HO0 := Lib.hid (show (w.alloc (.cells #[] 3)).ownsRow w.heap.size 3 1 (.slice (some ⟨w.heap.size, 0, none⟩) 0 0) 0 [] from ⟨rfl, .inr ⟨w.heap.size, 0, #[], rfl, Nat.le_refl _, (MapKept.heap_alloc w _).1, Nat.le_refl _, Nat.zero_le _, rfl, rfl⟩⟩)
      have HK3 := Lib.hid (show ∀ w3, (w.alloc (.cells #[] 3)).grownBy w3 (some w.heap.size) → Below w.heap.size w w3 from fun w3 hg => hE.trans ((Below.refl w.heap.size _).grown hg (by simp) (fun k hk => by cases hk; exact Nat.le_refl _)))
      have HE := Lib.hid hE
      obtain ⟨i0, hi, hz0, hz1, hz2⟩ := info_parts info_intR
      have HL := Lib.hid (And.intro hl hM)
      cases A with
      | none =>
        have hc0 : c = 0 := hc rfl
        subst hc0
        have hf0 : fa = [] := by
          rcases hA with h | ⟨_, _, h, _⟩
          · exact h
          · cases h
        subst hf0
        have hM0 : M = 0 := by rw [hM]; rfl
        subst hM0
        clear hA hc hE hl hM
        go_enter Try.func6, Try.ntmps6
        go_wp2_with (at_builtin; refine wpList_append_own_none rfl (.tmp 12) (.tmp 13) 22 rfl w.heap.size 3 i0 1 Try.underlying22 hi _ _ _ rfl HO0.out rfl ?_)
        all_goals
          go_ret
          have := xd_new (w := w) (x := w.heap.size + 1) (room := room) (fa := []) (by simp) HL.out.1 HE.out HO0.out
          exact ⟨this.2, by rw [if_pos HN.out]; exact ⟨_, _, rfl, this.1⟩⟩
      | some ad =>
        have HBy := Lib.hid (show ∀ (j : Nat) (u : Value), (fa.map (Value.int .i64))[j]? = some u → (w.alloc (.cells #[] 3)).cell? (ad.add j) = some u from fun j u hu => by
          rw [List.getElem?_map] at hu
          cases hj : fa[j]? with
          | none => rw [hj] at hu; cases hu
          | some z =>
            rw [hj] at hu
            cases hu
            rcases hA with h | ⟨b, off, h, hlt, hcell⟩
            · rw [h] at hj; cases hj
            · cases h
              rw [show (⟨b, off, none⟩ : Addr).add j = ⟨b, off + j, none⟩ from addr_addR b off j]
              exact (hE.cell (p := ⟨b, off + j, none⟩) hlt).trans (hcell j z hj))
        have HLe := Lib.hid (show (fa.map (Value.int .i64)).length = M * 1 by rw [List.length_map, hM, Nat.mul_one])
        have HQ1 := Lib.hid (show ∀ u ∈ fa.map (Value.int .i64), u.oneCell' = true from fun u hu => by obtain ⟨y, _, rfl⟩ := List.mem_map.1 hu; rfl)
        clear hA hc hE hl hM
        go_enter Try.func6, Try.ntmps6
        go_wp2_with (at_builtin; refine wpList_append_own _ rfl (.tmp 12) (.tmp 13) 22 rfl w.heap.size 3 i0 (.int .i64 0) 1 8 Try.underlying22 hi hz0 hz1 hz2 rfl (by decide) _ _ _ rfl HO0.out ad M c (fa.map (Value.int .i64)) rfl HLe.out HBy.out HQ1.out (by unfold maxLen; omega) (by omega) HE.out.size ?_)
        intro v3 w3 hown3 hg3 _
        obtain ⟨A3, cp3, hv3⟩ := own_sliceD hown3
        subst hv3
        have HO3 := Lib.hid hown3
        have HB3 := Lib.hid (HK3.out w3 hg3)
        clear hown3 hg3
        all_goals
          go_wp2_with fail
          go_ret
          have := xd_new (w := w) (room := room) (fa := fa) rfl HL.out.1 HB3.out (by rw [← HL.out.2]; exact HO3.out)
          exact ⟨this.2, by rw [if_pos HN.out]; exact ⟨_, _, rfl, this.1⟩⟩
end Go.Proofs.Ythimgldohhaimab
