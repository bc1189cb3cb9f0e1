/-
  Package disk: Append, whatever it is asked; a page's bytes.
-/
import Derived.Test.YthimgldohhaimabDk7
namespace Go.Proofs.Ythimgldohhaimab
open Go.RowKit Go.Maps

set_option maxRecDepth 100000 in
set_option maxHeartbeats 2000000 in
theorem append_any (B l mf ms : Nat) (d : Dk) (n : Int) (q : List Int) (A : Option Addr) (c : Nat) (w : World) (h : DkAt B w l mf ms d) (hw : (Lit.int .i64 n).wf = true) (hd : d.deeds < 1000000000000) (hr : d.wr < 1000000000000) (hql : q.length ≤ 9223372036854775807)
    (hA : q.length = 256 → ∃ b o, A = some ⟨b, o, none⟩ ∧ ∀ W, Dg B w W → W.rangeAt b o (q.map (Value.int .u8))) :
    Calls Try.prog 10 #[.pointer (some ⟨l, 0, none⟩), .int .i64 n, .slice A q.length c] w (AppEnd B w l mf ms d n q) := by
  have c2 := h.c2
  have _u : True := (fun _ => trivial) hql
  have HC := Lib.hid (dclosed_no l ms w c2)
  by_cases hq : q.length = 256
  · have hlk := h.fls.look hw Try.underlying51 (zeroS w) true
    rw [show vOf d.fls n = _ from vOf_fls d.fs n] at hlk
    cases hf : flOf d.fs n with
    | none =>
      rw [hf] at hlk
      simp only [if_true, Option.map_none, Option.getD_none, Option.isSome_none] at hlk
      have HQ := Lib.hid hq
      have HF := Lib.hid hf
      rw [hq]
      clear h hf hq hA hql
      go_enter Try.func10, Try.ntmps10
      go_wp2_with fail
      refine HC.out.mono ?_
      rintro e w1 ⟨rfl, rfl⟩
      go_wp2_with fail
      go_ret
      unfold AppEnd
      rw [if_neg (by rw [HQ.out]; simp), if_pos (by rw [HF.out]; rfl)]
      exact ⟨rfl, rfl⟩
    | some f =>
      rcases Int.lt_or_le d.us d.room with hro | hro
      · obtain ⟨b, o, rfl, hrg⟩ := hA hq
        rw [hq]
        exact append_in B l mf ms d n q b o c f w h hw hd hr hq hf hro hrg
      · obtain ⟨A2, cp, hv⟩ := pgs_shape (h.pgs f (flOf_mem hf).1)
        rw [hf] at hlk
        simp only [if_true, Option.map_some, Option.getD_some, Option.isSome_some] at hlk
        rw [hv] at hlk
        have HQ := Lib.hid hq
        have HF := Lib.hid hf
        have HR := Lib.hid hro
        have c7 := h.c7
        have c0 := h.c0
        have HD := Lib.hid (h.kept (Below.drew (Below.refl _ _)))
        have HG := Lib.hid (Dg.of_below h.lt (Below.drew (Below.refl w.heap.size w)))
        rw [hq]
        clear h hf hq hv hA hql
        go_enter Try.func10, Try.ntmps10
        go_wp2_with fail
        refine HC.out.mono ?_
        rintro e w1 ⟨rfl, rfl⟩
        go_wp2_with fail
        go_region
        go_wp2_with fail
        go_ret
        unfold AppEnd
        rw [if_neg (by rw [HQ.out]; simp), if_neg (by rw [HF.out]; simp), if_pos HR.out]
        exact ⟨rfl, HG.out, HD.out⟩
  · have HQ := Lib.hid hq
    have hqi : ¬ ((q.length : Int) = 256) := by omega
    obtain ⟨k, hk⟩ : ∃ k, k = q.length := ⟨_, rfl⟩
    rw [← hk] at hqi hql ⊢
    clear h hq hk hA
    go_enter Try.func10, Try.ntmps10
    go_wp2_with fail
    refine HC.out.mono ?_
    rintro e w1 ⟨rfl, rfl⟩
    go_wp2_with fail
    go_ret
    unfold AppEnd
    rw [if_pos HQ.out]
    exact ⟨rfl, rfl⟩
set_option maxRecDepth 100000 in
set_option maxHeartbeats 1000000 in
theorem append_nil (n : Int) (v : Value) (w : World) :
    Calls Try.prog 10 #[.pointer none, .int .i64 n, v] w fun e w' => e = .returned (.int .i64 6) ∧ w = w' := by
  have HC := Lib.hid (dclosed_nil w)
  go_enter Try.func10, Try.ntmps10
  go_wp2_with fail
  refine HC.out.mono ?_
  rintro e w1 ⟨rfl, rfl⟩
  go_wp2_with fail
  go_ret
  exact ⟨rfl, rfl⟩
/-- 256 bytes of one value, in a block of their own. -/
def pageC (c : Int) : List Int := List.replicate 256 c
def BlkAt (w : World) (g : Nat) (q : List Int) : Prop := w.heap[g]? = some (.cells (q.map (Value.int .u8)).toArray 5 (0, 0))
theorem BlkAt.range {w W : World} {g B : Nat} {q : List Int} (h : BlkAt w g q) (hg : Dg B w W) : W.rangeAt g 0 (q.map (Value.int .u8)) := by
  have hb := hg.typ g _ h (by simp [outD])
  intro j v hv
  simp [World.cell?, hb]
  simpa using hv
end Go.Proofs.Ythimgldohhaimab
