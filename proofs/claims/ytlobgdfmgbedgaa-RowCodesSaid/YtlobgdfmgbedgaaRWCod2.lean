/-
  The walk of RowCodes: rows that may be.
-/
import Derived.Test.YtlobgdfmgbedgaaRApp3
import Derived.Deep.RegionWith
namespace Go.Proofs.Ytlobgdfmgbedgaa
open Go.RowKit Go.Shelf

theorem str_at {w : World} {A : Option Addr} {l : List Int} {L : Nat} (h : BytesAt w A l) (hL : l.length = L) (c : Nat) :
    (convert 23 9 (.slice A L c)).run Try.prog w = .ok (.string (strOfNums l)) w := by
  subst hL; exact h.str c

theorem BytesAt.heap {w w' : World} {A : Option Addr} {l : List Int} (h : BytesAt w A l) (hh : w'.heap = w.heap) : BytesAt w' A l := by
  refine ⟨?_, h.2⟩
  rcases h.1 with h0 | ⟨b, off, rfl, hb, hc⟩
  · exact .inl h0
  · exact .inr ⟨b, off, rfl, by rw [hh]; exact hb, fun i v hv => by unfold World.cell?; rw [hh]; exact hc i v hv⟩
/-- What the last region holds. -/
theorem keepC {w7 w' : World} {g N : Nat} {l : List Int} (hF : BytesAt w7 (some ⟨g, 0, none⟩) l) (hL : l.length = N) {X : ByteArray} (hX : strOfNums l = X) (hb : Below w7.heap.size w7 w') :
    Below w7.heap.size w7 w' ∧ (convert 23 9 (.slice (some ⟨g, 0, none⟩) N N)).run Try.prog w' = .ok (.string X) w' :=
  ⟨hb, by rw [str_at (hF.kept hb) hL, hX]⟩
theorem refPut_N (A : Option Addr) (c : Nat) (r : List Va) (w : World) (h : RowAt w A r) (hok : okR r = true) {N : Nat} (hN : 1 + sumV r = N) {X : ByteArray} (hX : strOfNums (putR r) = X) :
    Calls Try.prog 23 #[.slice A r.length c] w fun e w' => ∃ g2 cap2, e = .returned (.slice (some ⟨g2, 0, none⟩) N cap2) ∧ (∀ w3 : World, w3.heap = w'.heap → (convert 23 9 (.slice (some ⟨g2, 0, none⟩) N cap2)).run Try.prog w3 = .ok (.string X) w3) ∧ Below w.heap.size w w' := by
  refine (refPut_any A c r w h hok).mono ?_
  rintro e w' ⟨g2, cap2, rfl, hbuf, hB⟩
  rw [hN] at hbuf
  refine ⟨g2, cap2, by rw [hN], fun w3 hh => ?_, hB⟩
  rw [str_at ((hbuf.bytes (putR_byte r hok)).heap hh) hbuf.len, hX]
theorem same_self (A A' : Option Addr) (c c' : Nat) (r : List Va) (w : World) (h : RowAt w A r) (h' : RowAt w A' r) (hl : r.length ≤ 65536) :
    Calls Try.prog 24 #[.slice A r.length c, .slice A' r.length c'] w fun e w' => e = .returned (.bool true) ∧ Below w.heap.size w w' := by
  have := rowSame_any A A' c c' r r w h h' (by omega) (by omega)
  rw [cmpR_self] at this
  exact this
theorem size_N (A : Option Addr) (c : Nat) (r : List Va) (w : World) (h : RowAt w A r) (hf : Fine r) (hok : okR r = true) {N : Nat} (hN : 1 + sumV r = N) :
    Calls Try.prog 21 #[.slice A r.length c] w fun e w' => e = .returned (.int .i64 N) ∧ Below w.heap.size w w' := by
  have := size_any A c r w h hf hok
  rw [show ((1 : Int) + (sumV r : Nat)) = (N : Int) by omega] at this
  exact this

theorem below_same {B : Nat} {w w' w'' : World} (h : Below B w w') (h1 : w''.heap = w'.heap) (h2 : w''.os = w'.os) (h3 : w''.tape = w'.tape) (h4 : w''.output = w'.output) : Below B w w'' :=
  ⟨h2.trans h.os, h3.trans h.tape, h4.trans h.output, by rw [h1]; exact h.size, fun k hk => by rw [h1]; exact h.block k hk⟩

end Go.Proofs.Ytlobgdfmgbedgaa
