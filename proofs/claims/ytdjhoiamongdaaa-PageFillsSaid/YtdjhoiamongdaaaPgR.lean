/-
  Contracts of page.Rows, Get, Check, Count, Room, New.
-/
import Derived.Test.YtdjhoiamongdaaaPgO2
namespace Go.Proofs.Ytdjhoiamongdaaa
open Go.RowKit Go.Shelf

theorem openP_len {p : List Int} (h : p.length ≠ 256) : openP p = none := by unfold openP; rw [if_neg h]
theorem open_any (A : Option Addr) (L c : Nat) (p : List Int) (w : World) (h : BytesAt w A p) (hL : p.length = L) (hc : L ≤ c) :
    Calls Try.prog 62 #[.slice A L c] w (OpenEnd w (openP p)) := by
  by_cases hl : L = 256
  · subst hl
    have hx := h.2 (p.getD 0 0) (by simp [List.getD, show 0 < p.length by omega])
    obtain ⟨K, hK⟩ := Int.eq_ofNat_of_zero_le hx.1
    by_cases hk : K ≤ 127
    · exact open_do A c K p w h hL hc hK hk
    · obtain ⟨b, off, rfl, hb, c0, x0, x1⟩ := h.at (getD_at p 0 (by omega))
      rw [Nat.add_zero, hK] at c0
      have e : openP p = none := by unfold openP; rw [if_pos hL, hK, Int.toNat_natCast, if_pos (by omega)]
      rw [e]
      exact open_many b off c K w c0 (by omega) (by omega)
  · rw [openP_len (by omega)]
    exact open_len A L c w hl

def RowsEnd (w : World) (o : Option (List (List Va) × Nat)) (e : Ending) (w' : World) : Prop :=
  Below w.heap.size w w' ∧ match o with
  | some (rs, _) => ∃ A c, e = .returned (.tuple #[.slice A rs.length c, .int .i64 0]) ∧ RowsAt w' A rs ∧ (A = none → c = 0) ∧ ListOwn w' 0 (.slice A rs.length c) rs
  | none => e = .returned (.tuple #[.slice none 0 0, .int .i64 40])
set_option maxHeartbeats 400000 in
theorem pageRows_any (A : Option Addr) (L c : Nat) (p : List Int) (w : World) (h : BytesAt w A p) (hL : p.length = L) (hc : L ≤ c) :
    Calls Try.prog 24 #[.slice A L c] w (RowsEnd w (openP p)) := by
  have HI := Lib.hid (open_any A L c p w h hL hc)
  clear h
  cases ho : openP p with
  | none =>
    rw [ho] at HI
    clear ho
    go_enter Try.func24, Try.ntmps24
    go_wp2_with fail
    refine HI.out.mono ?_
    rintro e w1 ⟨hb, rfl⟩
    go_wp2_with fail
    go_ret2
    exact ⟨hb, rfl⟩
  | some q =>
    obtain ⟨rs, n⟩ := q
    rw [ho] at HI
    clear ho
    go_enter Try.func24, Try.ntmps24
    go_wp2_with fail
    refine HI.out.mono ?_
    rintro e w1 ⟨hb, A1, c1, rfl, hr, hA, _, hO⟩
    have HR := Lib.hid hr
    have HA := Lib.hid hA
    have HO := Lib.hid hO
    clear hr hA hO
    go_wp2_with fail
    go_ret2
    exact ⟨hb, A1, c1, rfl, HR.out, HA.out, HO.out⟩
def okP (p : List Int) : Bool := (openP p).isSome
set_option maxHeartbeats 400000 in
theorem pageCheck_any (A : Option Addr) (L c : Nat) (p : List Int) (w : World) (h : BytesAt w A p) (hL : p.length = L) (hc : L ≤ c) :
    Calls Try.prog 27 #[.slice A L c] w fun e w' => e = .returned (.int .i64 (match openP p with | none => 40 | some _ => 0)) ∧ Below w.heap.size w w' := by
  have HI := Lib.hid (open_any A L c p w h hL hc)
  clear h
  cases ho : openP p with
  | none =>
    rw [ho] at HI
    clear ho
    go_enter Try.func27, Try.ntmps27
    go_wp2_with fail
    refine HI.out.mono ?_
    rintro e w1 ⟨hb, rfl⟩
    go_wp2_with fail
    go_ret
    exact ⟨rfl, hb⟩
  | some q =>
    obtain ⟨rs, n⟩ := q
    rw [ho] at HI
    clear ho
    go_enter Try.func27, Try.ntmps27
    go_wp2_with fail
    refine HI.out.mono ?_
    rintro e w1 ⟨hb, A1, c1, rfl, _, _, _⟩
    go_wp2_with fail
    go_ret
    exact ⟨rfl, hb⟩
set_option maxHeartbeats 400000 in
theorem pageCount_any (A : Option Addr) (L c : Nat) (p : List Int) (w : World) (h : BytesAt w A p) (hL : p.length = L) (hc : L ≤ c) :
    Calls Try.prog 22 #[.slice A L c] w fun e w' => e = .returned (.int .i64 (match openP p with | none => 0 | some (rs, _) => (rs.length : Int))) ∧ Below w.heap.size w w' := by
  have HI := Lib.hid (open_any A L c p w h hL hc)
  clear h
  cases ho : openP p with
  | none =>
    rw [ho] at HI
    clear ho
    go_enter Try.func22, Try.ntmps22
    go_wp2_with fail
    refine HI.out.mono ?_
    rintro e w1 ⟨hb, rfl⟩
    go_wp2_with fail
    go_ret
    exact ⟨rfl, hb⟩
  | some q =>
    obtain ⟨rs, n⟩ := q
    rw [ho] at HI
    clear ho
    go_enter Try.func22, Try.ntmps22
    go_wp2_with fail
    refine HI.out.mono ?_
    rintro e w1 ⟨hb, A1, c1, rfl, _, _, _⟩
    go_wp2_with fail
    go_ret
    exact ⟨rfl, hb⟩
/-- How many bytes a row may have that still fits, behind n rows that end at e. -/
def roomI (n e : Int) : Int := max 0 (256 - 2 * (n + 1) - e)
set_option maxHeartbeats 400000 in
theorem roomF_any (n e : Int) (w : World) (h0 : 0 ≤ n) (h1 : n ≤ 65536) (h2 : 0 ≤ e) (h3 : e ≤ 65536) :
    Calls Try.prog 68 #[.int .i64 n, .int .i64 e] w fun r w' => r = .returned (.int .i64 (roomI n e)) ∧ w = w' := by
  go_enter Try.func68, Try.ntmps68
  go_wp2_with fail
  refine (placeAt_any n _ (by omega) h1).mono ?_
  rintro r w1 ⟨rfl, rfl⟩
  go_wp2_with fail
  go_ret
  exact ⟨rfl, rfl⟩
set_option maxHeartbeats 400000 in
theorem pageRoom_any (A : Option Addr) (L c : Nat) (p : List Int) (w : World) (h : BytesAt w A p) (hL : p.length = L) (hc : L ≤ c) :
    Calls Try.prog 23 #[.slice A L c] w fun e w' => e = .returned (.int .i64 (match openP p with | none => 0 | some (rs, n) => roomI rs.length n)) ∧ Below w.heap.size w w' := by
  have HI := Lib.hid (open_any A L c p w h hL hc)
  cases ho : openP p with
  | none =>
    rw [ho] at HI
    clear ho h
    go_enter Try.func23, Try.ntmps23
    go_wp2_with fail
    refine HI.out.mono ?_
    rintro e w1 ⟨hb, rfl⟩
    go_wp2_with fail
    go_ret
    exact ⟨rfl, hb⟩
  | some q =>
    obtain ⟨rs, n⟩ := q
    obtain ⟨_, hfit, _, hn⟩ := openP_make h.2 ho
    obtain ⟨_, h2, h3⟩ := fitsP_parts hfit
    have hn1 : n ≤ 256 := by omega
    rw [ho] at HI
    clear ho h hn hfit h2
    go_enter Try.func23, Try.ntmps23
    go_wp2_with fail
    refine HI.out.mono ?_
    rintro e w1 ⟨hb, A1, c1, rfl, _, _, _⟩
    go_wp2_with fail
    refine (roomF_any rs.length n _ (by omega) (by omega) (by omega) (by omega)).mono ?_
    rintro e w2 ⟨rfl, rfl⟩
    go_wp2_with fail
    go_ret
    exact ⟨rfl, hb⟩

/-- The ends of page.Get. -/
def PGetEnd (w : World) (o : Option (List (List Va) × Nat)) (i : Int) (e : Ending) (w' : World) : Prop :=
  Below w.heap.size w w' ∧ match o with
  | none => e = .returned (.tuple #[.slice none 0 0, .int .i64 40])
  | some (rs, _) => if 0 ≤ i ∧ i < rs.length then ∃ A c, e = .returned (.tuple #[.slice A (rs.getD i.toNat []).length c, .int .i64 0]) ∧ RowAt w' A (rs.getD i.toNat []) else e = .returned (.tuple #[.slice none 0 0, .int .i64 4])
set_option maxHeartbeats 1000000 in
theorem pageGet_any (A : Option Addr) (L c : Nat) (p : List Int) (i : Int) (w : World) (h : BytesAt w A p) (hL : p.length = L) (hc : L ≤ c) :
    Calls Try.prog 25 #[.slice A L c, .int .i64 i] w (PGetEnd w (openP p) i) := by
  have HI := Lib.hid (open_any A L c p w h hL hc)
  clear h
  cases ho : openP p with
  | none =>
    rw [ho] at HI
    clear ho
    go_enter Try.func25, Try.ntmps25
    go_wp2_with fail
    refine HI.out.mono ?_
    rintro e w1 ⟨hb, rfl⟩
    go_wp2_with fail
    go_ret2
    exact ⟨hb, rfl⟩
  | some q =>
    obtain ⟨rs, n⟩ := q
    rw [ho] at HI
    clear ho
    by_cases h0 : i < 0
    · go_enter Try.func25, Try.ntmps25
      go_wp2_with fail
      refine HI.out.mono ?_
      rintro e w1 ⟨hb, A1, c1, rfl, _, _, _⟩
      go_wp2_with fail
      go_ret2
      refine ⟨hb, ?_⟩
      simp only
      rw [if_neg (by omega)]; rfl
    · obtain ⟨j, rfl⟩ := Int.eq_ofNat_of_zero_le (by omega : 0 ≤ i)
      by_cases h1 : j < rs.length
      · have h1i : (j : Int) < (rs.length : Int) := by omega
        have HN := Lib.hid (show rs.getD ((j : Int)).toNat [] = rs[j] by simp [List.getD, h1])
        go_enter Try.func25, Try.ntmps25
        go_wp2_with fail
        refine HI.out.mono ?_
        rintro e w1 ⟨hb, A1, c1, rfl, hr, _, _⟩
        obtain ⟨b, off, rfl, A2, c2, d0, s0⟩ := hr.cellAt h1
        have HS := Lib.hid s0
        have HB := Lib.hid hb
        generalize hrr : rs[j] = r at d0 s0 HS HN
        clear s0 hr hrr hb
        go_wp2_with fail
        go_ret2
        refine ⟨HB.out, ?_⟩
        simp only
        rw [if_pos (by omega), HN.out]
        exact ⟨A2, c2, rfl, HS.out⟩
      · have h1i : (rs.length : Int) ≤ (j : Int) := by omega
        go_enter Try.func25, Try.ntmps25
        go_wp2_with fail
        refine HI.out.mono ?_
        rintro e w1 ⟨hb, A1, c1, rfl, _, _, _⟩
        go_wp2_with fail
        go_ret2
        refine ⟨hb, ?_⟩
        simp only
        rw [if_neg (by omega)]; rfl
end Go.Proofs.Ytdjhoiamongdaaa
