/-
  Tokens shown.
-/
import Derived.Test.YtbjkencaebeleaaDoorLxe
import Derived.Laws.MakeOwn
import Derived.Deep.OwnRows
import Derived.Laws.OwnMore
namespace Go.Proofs.YtbjkencaebeleaaDoor
open Go.RowKit Go.Shelf

theorem join_shw : ∀ l : List Lx.Tok, Lib.join (l.map Lx.show1) [32] = Lx.shw l
  | [] => rfl
  | [t] => by simp [Lib.join, Lx.shw, List.intercalate]
  | t :: u :: r => by
    have ih := join_shw (u :: r)
    simp only [Lib.join, List.intercalate, List.map_cons, List.intersperse_cons_cons, List.flatten_cons] at ih ⊢
    rw [ih]; simp [Lx.shw]
abbrev sh (x : TkA) : ByteArray := ⟨(Lx.show1 x.1).toArray⟩
theorem info_str : (Tryd.prog.info? 9).map (fun i => (i.zero, i.size, i.bytes)) = some (some (.string ⟨#[]⟩), 1, 16) := by kernel_rfl
theorem make_strs (n : Nat) (hn : n ≤ 65536) (w : World) : (Instr.makeSlice 33 (.int .i64 n) (.int .i64 n)).run Tryd.prog w =
    .ok (.slice (some ⟨w.heap.size, 0, none⟩) n n) (w.alloc (.cells ((List.replicate n (⟨#[]⟩ : ByteArray)).map Value.string).toArray 9)) := by
  have h := run_make_row' (P := Tryd.prog) 33 9 (.string ⟨#[]⟩) 16 Tryd.underlying33 info_str rfl .i64 .i64 n (by omega) (by omega) w
  have e : madeCells #[Value.string ⟨#[]⟩] n = ((List.replicate n (⟨#[]⟩ : ByteArray)).map Value.string).toArray := by
    apply Array.toList_inj.1
    rw [toList_madeCells_one]; simp
  rw [e] at h
  exact h
/-- Texts of the call's own. -/
def Txt (w : World) (g : Nat) (cs : List ByteArray) : Prop := w.heap[g]? = some (.cells (cs.map Value.string).toArray 9 (0, 0))
theorem Txt.set {w : World} {g : Nat} {cs : List ByteArray} (h : Txt w g cs) (k : Nat) (b : ByteArray) : Txt (w.setCell ⟨g, k, none⟩ (.string b)) g (cs.set k b) := by
  unfold Txt at h ⊢
  simp only [World.setCell, Array.getElem?_modify, if_true, h]
  simp [List.map_set]
theorem Txt.at {w : World} {g : Nat} {cs : List ByteArray} (h : Txt w g cs) {k : Nat} {b : ByteArray} (hk : cs[k]? = some b) : w.cell? ⟨g, k, none⟩ = some (.string b) := by
  unfold Txt at h
  simp [World.cell?, h, hk]
theorem Txt.free {w : World} {g : Nat} {cs : List ByteArray} (h : Txt w g cs) (k : Nat) : w.frozen? ⟨g, k, none⟩ = false := by
  unfold Txt at h
  simp [World.frozen?, h]
theorem Txt.lt {w : World} {g : Nat} {cs : List ByteArray} (h : Txt w g cs) : g < w.heap.size := by
  rcases Nat.lt_or_ge g w.heap.size with hl | hg
  · exact hl
  · unfold Txt at h; rw [Array.getElem?_eq_none hg] at h; cases h

theorem strs_eq (n : Nat) : ((List.replicate n (⟨#[]⟩ : ByteArray)).map Value.string).toArray = Array.replicate n (.string ⟨#[]⟩) := by simp
set_option maxHeartbeats 2000000 in
theorem shows_any (A : Option Addr) (c : Nat) (l : List TkA) (w : World) (ha : TkAt w A l) (hT : Tabs w) (hl : l.length ≤ 4096) (hs : ∀ x ∈ l, x.1.s.length ≤ 16384) (hlen : (Lx.shw (l.map (·.1))).length ≤ 140737488355328) :
    Calls Tryd.prog 7 #[.slice A l.length c] w fun e w' => e = .returned (.string ⟨(Lx.shw (l.map (·.1))).toArray⟩) ∧ Below w.heap.size w w' := by
  have hmk := make_strs l.length (by omega) w
  rw [strs_eq] at hmk
  have HA := Lib.hid ha
  have HT := Lib.hid hT
  have HS := Lib.hid hs
  have HX := Lib.hid (show Txt (w.alloc (.cells (Array.replicate l.length (.string ⟨#[]⟩)) 9)) w.heap.size (List.replicate l.length ⟨#[]⟩) from by unfold Txt; rw [strs_eq]; exact (MapKept.heap_alloc w _).1)
  have HB := Lib.hid (ba w (.cells (Array.replicate l.length (.string ⟨#[]⟩)) 9))
  clear ha hT hs
  go_enter Tryd.func7, Tryd.ntmps7
  go_wp2_with fail
  generalize w.alloc (.cells (Array.replicate l.length (.string ⟨#[]⟩)) 9) = W1 at HX HB ⊢
  obtain ⟨U, hU⟩ : ∃ U, w.heap.size = U := ⟨_, rfl⟩
  have HUB := Lib.hid (show w.heap.size ≤ U by omega)
  rw [hU] at HX ⊢
  clear hU hmk
  go_loopw [11] (fun i W => ∃ (k : Nat) (cs : List ByteArray), k ≤ l.length ∧ i = .int .i64 k ∧ cs.length = l.length ∧ Hid (cs.take k = (l.map sh).take k) ∧ Hid (Txt W U cs) ∧ Hid (Below w.heap.size w W)) (fun i _ => l.length - (intOf i).toNat)
  case atStart => exact ⟨0, _, Nat.zero_le _, rfl, by simp, Lib.hid (by simp), HX, HB⟩
  case round =>
    obtain ⟨k, cs, hk, rfl, hcs, HC, HX, HW⟩ := hrel
    by_cases hkl : k < l.length
    · obtain ⟨x, hx⟩ : ∃ x, l[k]? = some x := ⟨_, List.getElem?_eq_getElem hkl⟩
      obtain ⟨g, off, rfl, a0, a1, a2, a3⟩ := (HA.out.kept HW.out).at hx
      have HSx := Lib.hid (HS.out x (List.mem_of_getElem? hx))
      have HN := Lib.hid (show (cs.set k (sh x)).take (k + 1) = (l.map sh).take (k + 1) by
        rw [List.take_add_one, List.take_add_one, List.getElem?_set_self (by omega), List.getElem?_map, hx, List.take_set_of_le (Nat.le_refl _), HC.out]; rfl)
      have hU := HX.out.lt
      have HBx := Lib.hid (bt HW.out (ba wr (.cells #[.int .i64 x.1.k, .string ⟨x.1.s.toArray⟩, .int .i64 x.1.n, .int .i64 x.2] 32)))
      clear hx
      go_wp2_with fail
      refine (show_any x _ HSx.out (HT.out.kept HBx.out)).mono ?_
      rintro e w3 ⟨rfl, hb⟩
      have HX3 := Lib.hid (show Txt w3 U cs from (hb.block U (by rw [World.size_alloc]; omega)).trans (((ba wr _).block U hU).trans HX.out))
      have HB3 := Lib.hid (bt HBx.out hb)
      obtain ⟨b, hbk⟩ : ∃ b, cs[k]? = some b := ⟨_, List.getElem?_eq_getElem (by omega)⟩
      have e0 := HX3.out.at hbk
      have f0 := HX3.out.free k
      have HX4 := Lib.hid (HX3.out.set k (sh x))
      have HB4 := Lib.hid (HB3.out.setCell (p := ⟨U, k, none⟩) HUB.out (.string (sh x)))
      clear hbk a0 a1 a2 a3 hU hb
      go_wp2_with fail
      go_roundw
      case rel => exact ⟨k + 1, cs.set k (sh x), by omega, by go_num, by simp [hcs], HN, HX4, HB4⟩
      case measure => simp [intOf]; omega
    · obtain rfl : k = l.length := by omega
      have hcl : cs = l.map sh := by
        have := HC.out
        rwa [List.take_of_length_le (by omega), List.take_of_length_le (by simp)] at this
      subst hcl
      have hj : Lib.join ((l.map sh).map (·.data.toList)) (⟨#[32]⟩ : ByteArray).data.toList = Lx.shw (l.map (·.1)) := by
        rw [← join_shw, List.map_map, List.map_map]; rfl
      have HJ := Lib.hid hj
      have HE := Lib.hid (show ∀ (j : Nat) b, (l.map sh)[j]? = some b → wr.cell? ⟨U, 0 + j, none⟩ = some (.string b) from fun j b hb => by rw [Nat.zero_add]; exact HX.out.at hb)
      have HL := Lib.hid HX.out.lt
      clear hj
      have hK := Tryd.strings_Join U 0 l.length (l.map sh) ⟨#[32]⟩ wr HE.out HL.out (by rw [List.length_map]; omega) (by rw [List.length_map]; omega) (by rw [HJ.out]; exact hlen)
      rw [HJ.out, List.length_map] at hK
      have HK := Lib.hid hK
      clear hK
      go_wp2_with fail
      refine HK.out.mono ?_
      rintro e w3 ⟨rfl, hb⟩
      go_wp2_with fail
      go_ret
      exact ⟨rfl, bt HW.out hb⟩
end Go.Proofs.YtbjkencaebeleaaDoor
