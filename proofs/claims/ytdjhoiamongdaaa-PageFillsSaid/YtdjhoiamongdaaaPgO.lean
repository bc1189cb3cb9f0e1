/-
  Contracts of page.open and what it calls: the rows of a page's bytes.
-/
import Derived.Test.YtdjhoiamongdaaaPgP2
import Derived.Test.YtdjhoiamongdaaaRGet
import Derived.Test.YtdjhoiamongdaaaLst2
import Derived.Deep.QuietTactic
import Derived.BigQuiet
import Derived.IntWalk
namespace Go.Proofs.Ytdjhoiamongdaaa
open Go.RowKit Go.Shelf

set_option maxHeartbeats 400000 in
theorem placeAt_any (i : Int) (w : World) (h0 : -1 ≤ i) (h1 : i ≤ 65536) :
    Calls Try.prog 85 #[.int .i64 i] w fun e w' => e = .returned (.int .i64 (256 - 2 * (i + 1))) ∧ w = w' := by
  go_enter Try.func85, Try.ntmps85
  go_wp2_with fail
  go_ret
  exact ⟨rfl, rfl⟩
theorem placeAt_is (i : Int) (a : Int) (w : World) (h0 : -1 ≤ i) (h1 : i ≤ 65536) (ha : 256 - 2 * (i + 1) = a) :
    Calls Try.prog 85 #[.int .i64 i] w fun e w' => e = .returned (.int .i64 a) ∧ w = w' := by
  subst ha; exact placeAt_any i w h0 h1

/-- p[e:pl:pl]. -/
theorem run_cut3 (A : Option Addr) (L c e pl : Nat) (h1 : e ≤ pl) (h2 : pl ≤ c) (W : World) :
    (Instr.slice 25 (.slice A L c) (some (.int .i64 (e : Int))) (some (.int .i64 (pl : Int))) (some (.int .i64 (pl : Int)))).run Try.prog W = .ok (.slice (adv A pl e) (pl - e) (pl - e)) W := by
  have ht := Try.underlying25
  have ht' : Try.prog.underlying 25 = some (.slice (Try.prog.elem 25)) := by simp [Program.elem, ht]
  have he : Try.prog.elem 25 = 5 := by simp [Program.elem, ht]
  rw [run_slice_lhm W _ _ _ _ ht' .i64 .i64 .i64 _ _ _ (by omega) (by omega) (by omega) (by omega), he, size_byte]
  simp [Result.andThen, sliced, adv]
theorem BytesAt.cut {w : World} {A : Option Addr} {bs : List Int} (h : BytesAt w A bs) (pl e : Nat) : BytesAt w (adv A pl e) ((bs.take pl).drop e) :=
  (h.take pl).drop pl e (by simp; omega)

theorem getD_at (p : List Int) (i : Nat) (h : i < p.length) : p[i]? = some (p.getD i 0) := by simp [List.getD, h]

set_option maxRecDepth 100000 in
set_option maxHeartbeats 1000000 in
theorem place_any (A : Option Addr) (c i : Nat) (p : List Int) (w : World) (h : BytesAt w A p) (hl : p.length = 256) (hi : i < 128) :
    Calls Try.prog 87 #[.slice A 256 c, .int .i64 i] w fun e w' => e = .returned (.int .i64 (placeP p i)) ∧ Below w.heap.size w w' := by
  obtain ⟨b, off, rfl, hb, c0, x0, x1⟩ := h.at (getD_at p (254 - 2 * i) (by omega))
  obtain ⟨b', off', e', hb', d0, y0, y1⟩ := h.at (getD_at p (255 - 2 * i) (by omega))
  cases e'
  unfold placeP
  have hor := or_byte (p.getD (254 - 2 * i) 0) (p.getD (255 - 2 * i) 0) x0 (by omega) y0 y1
  generalize p.getD (254 - 2 * i) 0 = x at c0 x0 x1 hor ⊢
  generalize p.getD (255 - 2 * i) 0 = y at d0 y0 y1 hor ⊢
  obtain ⟨a, ha⟩ : ∃ a, a = 254 - 2 * i := ⟨_, rfl⟩
  rw [← ha] at c0
  rw [show 255 - 2 * i = a + 1 by omega] at d0
  have hai : 256 - 2 * ((i : Int) + 1) = (a : Int) := by omega
  have ha2 : a ≤ 254 := by omega
  have HA := Lib.hid hai
  have HO := Lib.hid hor
  clear h hl ha hai hor
  go_enter Try.func87, Try.ntmps87
  go_wp2_with fail
  refine (placeAt_is i a _ (by omega) (by omega) HA.out).mono ?_
  rintro e w1 ⟨rfl, rfl⟩
  have a0 : (0 : Int) ≤ (a : Int) := Int.natCast_nonneg _
  have a1 : (a : Int) < 256 := by omega
  have a2 : (a : Int) + 1 < 256 := by omega
  have a3 : IntKind.i64.wrap ((a : Int) + 1) = (a : Int) + 1 := IntWalk.i64_in _ (by omega)
  have a4 : (0 : Int) ≤ (a : Int) + 1 := by omega
  have a5 : ((a : Int) + 1).toNat = a + 1 := by omega
  have v1 : IntKind.i64.wrap x = x := IntWalk.i64_in _ (by omega)
  have v2 : IntKind.i64.wrap (x * 256) = x * 256 := IntWalk.i64_in _ (by omega)
  have v3 : IntKind.i64.wrap y = y := IntWalk.i64_in _ (by omega)
  go_wp2_with fail
  go_quiet (fail)
  go_wp2_with fail
  go_ret
  exact ⟨ret_int HO.out, ⟨rfl, rfl, rfl, Nat.le_refl _, fun _ _ => rfl⟩⟩

set_option maxHeartbeats 400000 in
theorem odd_b (b : Bool) (x : Int) (w : World) (h : (x != 0) = b) :
    Calls Try.prog 89 #[.int .u8 x] w fun e w' => e = .returned (.bool b) ∧ w = w' := by
  go_enter Try.func89, Try.ntmps89
  go_wp2_with fail
  go_ret
  exact ⟨rfl, rfl⟩
def oddB (x : Int) : Bool := x != 0
set_option maxHeartbeats 1000000 in
theorem indexOdd_any (A : Option Addr) (c L : Nat) (bs : List Int) (w : World) (h : BytesAt w A bs) (hL : bs.length = L) (hl : L ≤ 9223372036854775807) :
    Calls Try.prog 100 #[.slice A L c, .func (.func 89) #[] #[]] w (PlaceEnd (bs.any oddB) w) := by
  have eg := enters_of Try.func89 (by kernel_rfl) rfl
  unfold Enters at eg
  have HH := Lib.hid h
  have HL := Lib.hid hL
  clear h hL
  go_enter Try.func100, Try.ntmps100
  go_wp2_with fail
  go_loop [8] (fun i => ∃ j : Nat, j ≤ L ∧ i = .int .i64 j ∧ Hid ((bs.take j).any oddB = false)) (fun i => L - (intOf i).toNat)
  case atStart => exact ⟨0, Nat.zero_le _, rfl, Lib.hid (by simp)⟩
  case round =>
    obtain ⟨j, hj, rfl, HN⟩ := hrel
    by_cases hlt : j < L
    · have hlt' : j < bs.length := by rw [HL.out]; exact hlt
      obtain ⟨b, off, rfl, hb, c0, x0, x1⟩ := HH.out.at (List.getElem?_eq_getElem hlt')
      have HS := Lib.hid (anyi_take_succ oddB bs j hlt')
      have HM := Lib.hid (show oddB bs[j] = true → bs.any oddB = true from fun hh => List.any_eq_true.2 ⟨_, List.getElem_mem hlt', hh⟩)
      generalize bs[j] = v at c0 x0 x1 HS HM
      clear hlt'
      cases hbd : oddB v
      · have HD := Lib.hid hbd
        have HE := Lib.hid (show (bs.take (j + 1)).any oddB = false by rw [HS.out, HN.out, hbd]; rfl)
        clear hbd
        go_wp2_with fail
        refine (odd_b false v _ HD.out).mono ?_
        rintro e w1 ⟨rfl, rfl⟩
        go_wp2_with fail
        go_round
        case rel => exact ⟨j + 1, by omega, by go_num, HE⟩
        case measure => simp [intOf]; omega
      · have HD := Lib.hid hbd
        have HE := Lib.hid (HM.out hbd)
        clear hbd
        go_wp2_with fail
        refine (odd_b true v _ HD.out).mono ?_
        rintro e w1 ⟨rfl, rfl⟩
        go_wp2_with fail
        go_ret
        exact ⟨j, by omega, by rw [HE.out]; simp, rfl, rfl⟩
    · have HE := Lib.hid (show bs.any oddB = false by rw [← HN.out, List.take_of_length_le (by rw [HL.out]; omega)])
      go_wp2_with fail
      go_ret
      exact ⟨-1, by omega, by rw [HE.out]; rfl, rfl, rfl⟩
set_option maxHeartbeats 400000 in
theorem containsOdd_b (b : Bool) (A : Option Addr) (c L : Nat) (bs : List Int) (w : World) (h : BytesAt w A bs) (hL : bs.length = L) (hl : L ≤ 9223372036854775807) (hb : bs.any oddB = b) :
    Calls Try.prog 88 #[.slice A L c, .func (.func 89) #[] #[]] w fun e w' => e = .returned (.bool b) ∧ w = w' := by
  have HI := Lib.hid (indexOdd_any A c L bs w h hL hl)
  rw [hb] at HI
  clear hb h
  go_enter Try.func88, Try.ntmps88
  go_wp2_with fail
  refine HI.out.mono ?_
  rintro e w1 ⟨i, hi0, hi, rfl, rfl⟩
  go_wp2_with fail
  go_ret
  exact ⟨rfl, rfl⟩
end Go.Proofs.Ytdjhoiamongdaaa
