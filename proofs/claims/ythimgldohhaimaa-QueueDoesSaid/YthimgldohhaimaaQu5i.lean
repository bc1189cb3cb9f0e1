/-
  Package queue, of one type: Close, All.
-/
import Derived.Test.YthimgldohhaimaaQu4i
import Derived.Conc.EventLaws
import Derived.OwnWalk
import Derived.Laws.AppendOwn
namespace Go.Proofs.Ythimgldohhaimaa
open Go.RowKit Go.Conc

section
variable {B : Nat} {w : World} {q c cap : Nat} {l : List Value}
set_option maxRecDepth 100000 in
set_option maxHeartbeats 4000000 in
theorem closeI_shut (h : QatI B w q c ⟨cap, l, true⟩) :
    Calls Try.prog 27 #[.pointer (some ⟨q, 0, none⟩)] w fun e w' => e = .returned (.bool false) ∧ w = w' := by
  have HC := Lib.hid (closedI_any h)
  clear h
  go_enter Try.func27, Try.ntmps27
  go_wp2_with fail
  refine HC.out.mono ?_
  rintro e w1 ⟨rfl, rfl⟩
  go_wp2_with fail
  go_ret
  exact ⟨rfl, rfl⟩
set_option maxRecDepth 100000 in
set_option maxHeartbeats 4000000 in
theorem closeI_open (h : QatI B w q c ⟨cap, l, false⟩) :
    Calls Try.prog 27 #[.pointer (some ⟨q, 0, none⟩)] w fun e w' => e = .returned (.bool true) ∧ QatI B w' q c ⟨cap, l, true⟩ ∧ Only q c w w' ∧ ∀ k, Away w c k → Away w' c k := by
  have HC := Lib.hid (closedI_any h)
  obtain ⟨s, r, ps, hc, hx⟩ := h.chan
  have HF := Lib.hid (And.intro (h.shut hx (s := s) (r := r)) (fun (k : Nat) (hl : Away w c k) => Away.at (k := k) (heap_setChan (w.setCell ⟨q, 1, none⟩ (.bool true)) c cap (bufQ ps) true s r false (by simp [World.setCell]; exact block_ltQ hc)) (hl _ _ _ _ _ _ hc)))
  have c0 := h.c0
  have c1 := h.c1
  have f1 := h.fz 1
  have hne := h.ne
  have d0 : (w.setCell ⟨q, 1, none⟩ (.bool true)).cell? ⟨q, 0, none⟩ = some (.chan (some c)) := by
    have hb := h.box
    simp [World.cell?, World.setCell, Array.getElem?_modify, hb]
  have hc2 : (w.setCell ⟨q, 1, none⟩ (.bool true)).heap[c]? = some (.chan cap (bufQ ps) false s r false) := by
    have := hc
    simp [World.setCell, Array.getElem?_modify, hne] at this ⊢
    exact this
  have hcl := fun ats ty => run_close_open (P := Try.prog) ats ty hc2
  clear h hx hc hc2 hne
  go_enter Try.func27, Try.ntmps27
  go_wp2_with fail
  refine HC.out.mono ?_
  rintro e w1 ⟨rfl, rfl⟩
  clear HC
  go_wp2_with fail
  go_ret
  exact ⟨rfl, HF.out.1.1, HF.out.1.2, HF.out.2⟩
theorem infoI_e : (Try.prog.info? 3).map (fun i => (i.zero, i.size, i.bytes)) = some (some (.int .i64 0), 1, 8) := by kernel_rfl -- bytes
theorem dropI (xs : List Int) (j : Nat) (hj : j < xs.length) : xs.take (j + 1) = xs.take j ++ [hdI (xs.drop j)] := by
  rw [List.take_succ_eq_append_getElem hj, List.drop_eq_getElem_cons hj]; rfl
/-- What All hands over. -/
def AllEndI (B : Nat) (w : World) (q c cap : Nat) (cl : Bool) (xs : List Int) (e : Ending) (w' : World) : Prop :=
  ∃ v, e = .returned v ∧ w'.ownsRow w.heap.size 3 1 v xs.length (xs.map (Value.int .i64)) ∧ QatI B w' q c ⟨cap, [], cl⟩ ∧ Only q c w w' ∧ (xs = [] → v = .slice none 0 0)
set_option maxRecDepth 100000 in
set_option maxHeartbeats 4000000 in
theorem allI_any {cl : Bool} (xs : List Int) (h : QatI B w q c ⟨cap, xs.map (Value.int .i64), cl⟩) :
    Calls Try.prog 19 #[.pointer (some ⟨q, 0, none⟩)] w (AllEndI B w q c cap cl xs) := by
  obtain ⟨i0, hi, hz0, hz1, hz2⟩ := info_parts infoI_e
  have HT := Lib.hid (takeI_any h xs rfl)
  have hlen : xs.length ≤ 1024 := by have := h.room; have := h.most.2; simp at *; omega
  have HL := Lib.hid (show q < w.heap.size ∧ c < w.heap.size by
    obtain ⟨s, r, ps, hc, _⟩ := h.chan
    exact ⟨block_ltQ h.box, block_ltQ hc⟩)
  have HLo := Lib.hid h.low
  clear h
  go_enter Try.func19, Try.ntmps19
  go_wp2_with fail
  refine HT.out.mono ?_
  rintro e w1 ⟨rfl, hq1, ho1, hl1, _⟩
  have HQ1 := Lib.hid hq1
  have HO1 := Lib.hid ho1
  have HL1 := Lib.hid (hl1 _ HLo.out)
  clear hq1 ho1 HT hl1 HLo
  go_wp2_with fail
  go_loopw [3, 4, 5] (fun s x b wr => ∃ j : Nat, x = .int .i64 (hdI (xs.drop j)) ∧ b = .bool (decide (j < xs.length)) ∧ j ≤ xs.length ∧ Hid (QatI B wr q c ⟨cap, (xs.drop (j + 1)).map (Value.int .i64), cl⟩ ∧ LowB w.heap.size wr c) ∧ Hid (wr.ownsRow w.heap.size 3 1 s (xs.take j).length ((xs.take j).map (Value.int .i64))) ∧ Hid (Only q c w wr) ∧ Hid (j = 0 → s = .slice none 0 0)) (fun s _ _ _ => xs.length - lenV s)
  case atStart => exact ⟨0, by simp, by simp, Nat.zero_le _, Lib.hid ⟨by simpa using HQ1.out, HL1.out⟩, Lib.hid (World.ownsRow_nil _ _ _ _), HO1, Lib.hid (fun _ => rfl)⟩
  case round =>
    obtain ⟨j, rfl, rfl, hj, HQ, HR, HO, HN⟩ := hrel
    clear HQ1 HO1 HL1
    by_cases hlt : j < xs.length
    · have hdl : decide (j < xs.length) = true := decide_eq_true hlt
      rw [hdl]
      obtain ⟨x, hx⟩ : ∃ x, x = hdI (xs.drop j) := ⟨_, rfl⟩
      rw [← hx]
      have HX := Lib.hid hx
      clear hx hdl
      have hsz := HO.out.size
      have hlr := lenV_own HR.out
      have hml : (xs.take j).length = j := by simp; omega
      go_wp2_with (at_builtin; refine wpList_append_own _ rfl _ _ 35 rfl w.heap.size 3 i0 zI 1 8 Try.underlying35 hi hz0 hz1 hz2 rfl (by decide) _ _ _ rfl (HR.out.alloc _) ⟨wr.heap.size, 0, none⟩ 1 1 [.int .i64 x] rfl rfl ?c1 ?c2 ?c3 ?c4 ?c5 ?_)
      case c1 =>
        intro j' u hj'
        match j', hj' with
        | 0, hj' => simp at hj'; subst hj'; simp [Addr.add]
      case c2 => intro u hu; simp at hu; subst hu; rfl
      case c3 => rw [hml]; unfold maxLen; omega
      case c4 => rw [hml]; omega
      case c5 => simp; omega
      · intro v' w2 hown' hg _
        have hbU : Below w.heap.size wr w2 := ((Below.refl w.heap.size wr).alloc hsz _).grown hg (by simp; omega) (fun k hk => (HR.out.lt k hk).1)
        have HQ2 := Lib.hid (HQ.out.1.low_kept HQ.out.2 HL.out.1 HL.out.2 hbU)
        have HO2 := Lib.hid (HO.out.low hbU)
        have HR2 := Lib.hid hown'
        obtain ⟨A, cc, rfl⟩ := own_slice hown'
        clear hown' hg hbU HQ HO HN HR
        go_wp2_with fail
        refine (takeI_any HQ2.out.1 (xs.drop (j + 1)) rfl).mono ?_
        rintro e w3 ⟨rfl, hq3, ho3, hl3, _⟩
        have HQ3 := Lib.hid (And.intro hq3 (hl3 _ HQ2.out.2))
        have HR3 := Lib.hid (own_same HR2.out fun k hk => ho3.block k (HR2.out.lt k hk).2 (by have := (HR2.out.lt k hk).1; have := HL.out.1; omega) (by have := (HR2.out.lt k hk).1; have := HL.out.2; omega))
        have HO3 := Lib.hid (HO2.out.trans ho3)
        clear hq3 ho3 hl3 HQ2 HR2 HO2
        go_wp2_with fail
        go_roundw
        case rel =>
          refine ⟨j + 1, rfl, by congr 1; simp; omega, hlt, Lib.hid ⟨by simpa using HQ3.out.1, HQ3.out.2⟩, ?_, HO3, Lib.hid (fun h => by omega)⟩
          have hh := HR3.out
          rw [dropI xs j hlt, ← HX.out, List.length_append, List.map_append, hml]
          exact Lib.hid (by simpa using hh)
        case measure =>
          show xs.length - lenV (Value.slice A (j + 1) cc) < xs.length - lenV u3
          rw [hlr, hml]
          show xs.length - (j + 1) < xs.length - j
          omega
    · have hjx : j = xs.length := by omega
      have hdl : decide (j < xs.length) = false := decide_eq_false hlt
      rw [hdl]
      subst hjx
      obtain ⟨A, cc, rfl⟩ := own_slice HR.out
      clear hdl
      go_wp2_with fail
      go_ret
      have h1 := HR.out
      have h2 := HQ.out.1
      simp only [List.take_length] at h1
      rw [List.drop_of_length_le (by omega)] at h2
      refine ⟨_, by simp, h1, h2, HO.out, fun h => by have := HN.out (by simp [h]); simpa using this⟩
end
end Go.Proofs.Ythimgldohhaimaa
