/-
  The contract of the document's own Make.
-/
import Derived.Test.YtdjhoiamongdaaaPgN
namespace Go.Proofs.Ytdjhoiamongdaaa
open Go.RowKit Go.Shelf

def headP (L : Nat) : Int := (L : Int) % 256
theorem headP_le {L : Nat} (h : L ≤ 255) : headP L = (L : Int) := by
  unfold headP; omega
theorem headP_byte (L : Nat) : 0 ≤ headP L ∧ headP L < 256 := by
  unfold headP; omega
theorem buf_one (w : World) (n : Nat) (hn : w.heap.size = n) (b : Int) : Buf (w.alloc (.cells #[.int .u8 b] 5)) n n 1 1 [b] := by
  subst hn
  exact ⟨rfl, rfl, .inr ⟨w.heap.size, 1, #[.int .u8 b], rfl, Nat.le_refl _, heap_alloc_new w _, Nat.le_refl _, by simp [maxLen], rfl, rfl⟩⟩
def lenV : Value → Nat
  | .slice _ n _ => n
  | _ => 0

theorem bt' {B : Nat} {w w1 w2 : World} (h1 : Below B w w1) (hB : B ≤ w1.heap.size) (h2 : Below w1.heap.size w1 w2) : Below B w w2 := h1.trans (h2.mono hB)
def MakeEnd (w : World) (rs : List (List Va)) (e : Ending) (w' : World) : Prop :=
  Below w.heap.size w w' ∧ if fitsP rs = true then ∃ g cap, e = .returned (.tuple #[.slice (some ⟨g, 0, none⟩) 256 cap, .bool true]) ∧ Buf w' w.heap.size g cap 256 (makeP rs)
    else e = .returned (.tuple #[.slice none 0 0, .bool false])

set_option maxRecDepth 100000 in
set_option maxHeartbeats 2000000 in
theorem make_any (A : Option Addr) (c L : Nat) (rs : List (List Va)) (w : World) (h : RowsAt w A rs) (hL : rs.length = L) (hok : allOk rs) (hl : L ≤ 600) :
    Calls Try.prog 21 #[.slice A L c] w (MakeEnd w rs) := by
  have HR := Lib.hid h
  have HL := Lib.hid hL
  have HK := Lib.hid hok
  clear h hL hok
  go_enter Try.func21, Try.ntmps21
  go_wp2_with fail
  have hbuf := buf_one w _ rfl ((L : Int) % 256)
  have hB0 := ba w (.cells #[.int .u8 ((L : Int) % 256)] 5)
  generalize w.alloc (.cells #[.int .u8 ((L : Int) % 256)] 5) = W at hbuf hB0 ⊢
  have HBf := Lib.hid (show Buf W w.heap.size w.heap.size 1 1 [headP L] from hbuf)
  have HB0 := Lib.hid hB0
  clear hbuf hB0
  generalize hE : w.heap.size = B0 at HBf HB0 ⊢
  have HE := Lib.hid hE
  clear hE
  go_loopw [4, 5, 6] (fun o v i wr => ∃ j g cap N : Nat, j ≤ L ∧ i = .int .i64 j ∧ o = .slice (some ⟨g, 0, none⟩) N cap ∧ 1 ≤ N ∧ N ≤ 1 + 2113 * j ∧ Hid (N = 1 + lenP (rs.take j)) ∧ Hid (Buf wr B0 g cap N (headP L :: bodyP (rs.take j))) ∧ Hid (OwnI wr B0 v (startsI (rs.take j))) ∧ Hid (B0 ≤ wr.heap.size) ∧ Hid (Below B0 w wr)) (fun _ _ i _ => L - (intOf i).toNat)
  case atStart => exact ⟨0, B0, 1, 1, Nat.zero_le _, rfl, rfl, Nat.le_refl _, by omega, Lib.hid rfl, HBf, Lib.hid (OwnI.nil _ _), Lib.hid (by have := HBf.out.lt; omega), HB0⟩
  case round =>
    obtain ⟨j, g, cap, N, hj, rfl, rfl, hN1, hN2, HN, HBj, HI, HS, HB⟩ := hrel
    clear HBf HB0
    by_cases hlt : j < L
    · have hlt' : j < rs.length := by rw [HL.out]; exact hlt
      have HX := Lib.hid (startsI_succ rs j hlt')
      have HX2 := Lib.hid (bodyP_succ rs j hlt')
      have HX3 := Lib.hid (lenP_take_succ rs j hlt')
      have HJ := Lib.hid (show (startsI (rs.take j)).length ≤ 65536 by rw [startsI_len, List.length_take]; omega)
      go_wp2_with (at_builtin; refine wpList_pushI rfl (.tmp 18) (.tmp 21) rfl B0 u5 _ (N : Int) _ wr.heap.size rfl rfl (HI.out.kept (ba wr _)) (heap_alloc_new wr _) ?c3 HJ.out ?_)
      case c3 => have := HS.out; simp; omega
      intro v' w1 hI1 hg1
      have HI1 := Lib.hid (show OwnI w1 B0 v' (startsI (rs.take (j + 1))) by rw [HX.out, ← HN.out]; exact hI1)
      have HBf1 := Lib.hid ((HBj.out.alloc _).far (HI.out.kept (ba wr _)) hg1)
      have HS1 := Lib.hid (show B0 ≤ w1.heap.size by have := hg1.size; have := HS.out; simp at *; omega)
      have HB1 := Lib.hid (below_pushI (bt' HB.out HS.out (ba wr _)) (HI.out.kept (ba wr _)) (by have := HS.out; simp; omega) hg1)
      clear hI1 hg1 HI HBj HS HJ HX
      obtain ⟨b, off, rfl, A', c', c0, hr⟩ := (HR.out.kept (show Below w.heap.size w w1 by rw [HE.out]; exact HB1.out)).cellAt hlt'
      have hokj := HK.out rs[j] (List.getElem_mem hlt')
      have hs : sumV rs[j] ≤ 2112 := by
        obtain ⟨h32, hall⟩ := okR_parts hokj
        have := sumV_le _ hall
        omega
      generalize rs[j] = r at c0 hr hokj HX2 HX3 hs
      have HRj := Lib.hid hr
      clear hr
      go_wp2_with fail
      refine (refPut_any A' c' r w1 HRj.out hokj).mono ?_
      rintro e w2 ⟨g2, cap2, rfl, hbuf2, hb2⟩
      have HBy := Lib.hid (hbuf2.bytes (putR_byte r hokj))
      have HI2 := Lib.hid (HI1.out.kept hb2)
      have HBf2 := Lib.hid (HBf1.out.kept' hb2)
      have HB2 := Lib.hid (bt' HB1.out HS1.out hb2)
      have HS2 := Lib.hid (show B0 ≤ w2.heap.size by have := hb2.size; have := HS1.out; omega)
      have HPL := Lib.hid (show (putR r).length = 1 + sumV r from sizeR_len r)
      clear hbuf2 hb2 HRj c0 HI1 HBf1 HB1 HS1
      go_wp2_with (at_builtin; refine wpList_appO rfl (.tmp 23) (.tmp 28) rfl B0 g cap N _ (some ⟨g2, 0, none⟩) (1 + sumV r) cap2 (putR r) _ rfl rfl HBf2.out HBy.out HPL.out ?c4 ?c5 HS2.out ?_)
      case c4 => omega
      case c5 => omega
      intro g3 cap3 w3 hb3 hg3
      have HI3 := Lib.hid (HI2.out.far HBf2.out hg3)
      have HB3 := Lib.hid (below_appO HB2.out HBf2.out HS2.out hg3)
      have HS3 := Lib.hid (show B0 ≤ w3.heap.size by have := hg3.size; have := HS2.out; omega)
      have HBf3 := Lib.hid (show Buf w3 B0 g3 cap3 (N + (1 + sumV r)) (headP L :: bodyP (rs.take (j + 1))) by rw [HX2.out]; exact hb3)
      clear hb3 hg3 HI2 HBf2 HB2 HS2 HBy
      go_wp2_with fail
      go_roundw
      case rel => exact ⟨j + 1, g3, cap3, N + (1 + sumV r), by omega, by go_num, rfl, by omega, by omega, Lib.hid (by rw [HX3.out, HN.out]; omega), HBf3, HI3, HS3, HB3⟩
      case measure => simp [intOf]; omega
    · have hjL : j = L := by omega
      have HT := Lib.hid (show rs.take j = rs from List.take_of_length_le (by rw [HL.out]; omega))
      rw [HT.out] at HN HBj HI
      have HBe := Lib.hid (show Below w.heap.size w wr by rw [HE.out]; exact HB.out)
      by_cases h255 : (255 : Int) < (L : Int)
      · have HFt := Lib.hid (show ¬ fitsP rs = true by unfold fitsP; rw [HL.out]; simp; omega)
        go_wp2_with fail
        go_ret2
        refine ⟨HBe.out, ?_⟩
        rw [if_neg HFt.out]
        rfl
      · by_cases h256 : (256 : Int) < (N : Int) + 2 * (L : Int)
        · have HFt := Lib.hid (show ¬ fitsP rs = true by unfold fitsP; rw [HL.out, ← HN.out]; simp; omega)
          go_wp2_with fail
          go_ret2
          refine ⟨HBe.out, ?_⟩
          rw [if_neg HFt.out]
          rfl
        · have HFt := Lib.hid (show fitsP rs = true by unfold fitsP; rw [HL.out, ← HN.out]; simp; omega)
          have HhP := Lib.hid (headP_le (L := L) (by omega))
          generalize hfr : headP L :: bodyP rs = fr at HBj
          have HFr := Lib.hid hfr
          clear hfr
          go_wp2_with fail
          go_loopw [4] (fun o wq => ∃ g cap M : Nat, o = .slice (some ⟨g, 0, none⟩) M cap ∧ N ≤ M ∧ M + 2 * L ≤ 256 ∧ Hid (Buf wq B0 g cap M (fr ++ List.replicate (M - N) 0)) ∧ Hid (OwnI wq B0 u5 (startsI rs)) ∧ Hid (B0 ≤ wq.heap.size) ∧ Hid (Below B0 w wq)) (fun o _ => 256 - lenV o)
          case atStart => exact ⟨g, cap, N, rfl, Nat.le_refl _, by omega, Lib.hid (by simpa using HBj.out), HI, HS, HB⟩
          case round =>
            clear HBj HI HS HB HBe
            obtain ⟨g, cap, M, rfl, hM1, hM2, HBj, HI, HS, HB⟩ := hrel
            by_cases hM : (M : Int) < 256 - 2 * (L : Int)
            · have HNb := Lib.hid (bytes_new wr _ rfl [0] (by intro x hx; simp at hx; subst hx; omega))
              go_wp2_with (at_builtin; refine wpList_appO rfl (.tmp 49) (.tmp 50) rfl B0 g cap M _ (some ⟨wr.heap.size, 0, none⟩) 1 1 [0] _ rfl rfl (HBj.out.alloc _) HNb.out rfl (by omega) ?c4 ?c5 ?_)
              case c4 => omega
              case c5 => have := HS.out; simp; omega
              intro g3 cap3 w3 hb3 hg3
              have HI3 := Lib.hid ((HI.out.kept (ba wr _)).far (HBj.out.alloc _) hg3)
              have HB3 := Lib.hid (below_appO (bt' HB.out HS.out (ba wr _)) (HBj.out.alloc _) (by have := HS.out; simp; omega) hg3)
              have HS3 := Lib.hid (show B0 ≤ w3.heap.size by have := hg3.size; have := HS.out; simp at *; omega)
              have HBf3 := Lib.hid (show Buf w3 B0 g3 cap3 (M + 1) (fr ++ List.replicate (M + 1 - N) 0) by rw [show M + 1 - N = (M - N) + 1 by omega, List.replicate_succ']; simpa using hb3)
              clear hb3 hg3 HI HBj HB HS HNb
              go_wp2_with fail
              go_roundw
              case rel => exact ⟨g3, cap3, M + 1, rfl, by omega, by omega, HBf3, HI3, HS3, HB3⟩
              case measure => simp [lenV]; omega
            · have HBj := Lib.hid (show Buf wr B0 g cap M (frontP rs) by
                have e : frontP rs = fr ++ List.replicate (M - N) 0 := by
                  unfold frontP
                  have := HN.out
                  rw [HL.out, ← HFr.out, HhP.out, show 255 - 2 * L - lenP rs = M - N by omega]
                rw [e]; exact HBj.out)
              go_wp2_with fail
              go_loopw [4, 7] (fun o i wz => ∃ (k g cap M : Nat), k ≤ L ∧ i = .int .i64 ((k : Int) - 1) ∧ o = .slice (some ⟨g, 0, none⟩) M cap ∧ M + 2 * k = 256 ∧ Hid (Buf wz B0 g cap M (frontP rs ++ tailP ((starts 1 rs).drop k))) ∧ Hid (OwnI wz B0 u5 (startsI rs)) ∧ Hid (B0 ≤ wz.heap.size) ∧ Hid (Below B0 w wz)) (fun _ i _ => (intOf i + 1).toNat)
              case atStart => exact ⟨L, g, cap, M, Nat.le_refl _, rfl, rfl, by omega, Lib.hid (by rw [List.drop_of_length_le (by rw [starts_len, HL.out]; exact Nat.le_refl _)]; simpa [tailP] using HBj.out), HI, HS, HB⟩
              case round =>
                clear HBj HI HS HB
                obtain ⟨k, g, cap, M, hk, hi, rfl, hM, HBj, HI, HS, HB⟩ := hrel
                cases k with
                | zero =>
                  obtain rfl : u7 = .int .i64 (-1) := hi
                  obtain rfl : M = 256 := by omega
                  go_wp2_with fail
                  go_ret2
                  refine ⟨by rw [HE.out]; exact HB.out, ?_⟩
                  rw [if_pos HFt.out]
                  refine ⟨g, cap, rfl, ?_⟩
                  rw [HE.out, makeP_eq]
                  exact HBj.out
                | succ k =>
                  obtain rfl : u7 = .int .i64 (k : Int) := by rw [hi]; congr 1; omega
                  have hkl : k < (starts 1 rs).length := by rw [starts_len, HL.out]; omega
                  have HSl := Lib.hid (starts_le 1 rs _ (List.getElem_mem hkl))
                  have HDr := Lib.hid (List.drop_eq_getElem_cons hkl)
                  have hcell := HI.out.cell (by rw [startsI_len, HL.out]; omega)
                  rw [startsI_len, HL.out] at hcell
                  obtain ⟨ga, capa, rfl, hat⟩ := hcell
                  have ha := hat k (by omega)
                  have e0 : (startsI rs).getD k 0 = (((starts 1 rs)[k] : Nat) : Int) := by
                    unfold startsI
                    simp [List.getD, hkl]
                  rw [e0] at ha
                  have hs1 : (starts 1 rs)[k] ≤ N := by have := HSl.out; have := HN.out; omega
                  generalize (starts 1 rs)[k] = s at ha HSl HDr hs1
                  clear hat e0 hkl hi
                  have hN256 : N ≤ 256 := by omega
                  have v1 : IntKind.i64.wrap ((s : Int) / 256) = (s : Int) / 256 := IntWalk.i64_in _ (by omega)
                  have v2 : (s : Int).tmod 256 = (s : Int) % 256 := Int.tmod_eq_emod_of_nonneg (by omega)
                  have v3 : IntKind.u8.wrap ((s : Int) / 256) = (s : Int) / 256 := by unfold IntKind.wrap; simp [IntKind.signed, IntKind.bits]; omega
                  have v4 : IntKind.u8.wrap ((s : Int) % 256) = (s : Int) % 256 := by unfold IntKind.wrap; simp [IntKind.signed, IntKind.bits]
                  have hi0 : (0 : Int) ≤ (k : Int) := Int.natCast_nonneg _
                  have hi1 : (k : Int) < (L : Int) := by omega
                  go_wp2_with fail
                  have hne : ga ≠ g := fun e => by
                    obtain ⟨_, cs, fr', hcs⟩ := owns_typed HI.out ga rfl
                    obtain ⟨_, cs', fr'', hcs'⟩ := owns_typed HBj.out.own g rfl
                    rw [e, hcs'] at hcs
                    cases hcs
                  have hne2 : (some ga : Option Nat) ≠ some g := fun e => hne (Option.some.inj e)
                  have hga : ga < wr.heap.size := (HI.out.lt ga rfl).2
                  have HBd := Lib.hid (show Buf (wr.alloc (.cells #[.int .u8 ((s : Int) / 256), .int .u8 ((s : Int) % 256)] 5)).drew B0 g cap M (frontP rs ++ tailP ((starts 1 rs).drop (k + 1))) from ⟨HBj.out.len, (HBj.out.alloc _).own⟩)
                  have HNb := Lib.hid (show BytesAt (wr.alloc (.cells #[.int .u8 ((s : Int) / 256), .int .u8 ((s : Int) % 256)] 5)).drew (some ⟨wr.heap.size, 0, none⟩) [(s : Int) / 256, (s : Int) % 256] from bytes_new wr wr.heap.size rfl [(s : Int) / 256, (s : Int) % 256] (by intro x hx; simp at hx; rcases hx with rfl | rfl <;> omega))
                  have HSd := Lib.hid (show B0 ≤ (wr.alloc (.cells #[.int .u8 ((s : Int) / 256), .int .u8 ((s : Int) % 256)] 5)).drew.heap.size by have := HS.out; simp; omega)
                  have HCd := Lib.hid (show (wr.alloc (.cells #[.int .u8 ((s : Int) / 256), .int .u8 ((s : Int) % 256)] 5)).drew.cell? ⟨ga, k, none⟩ = some (.int .i64 s) from (World.cell?_alloc_lt wr _ ⟨ga, k, none⟩ hga).trans ha)
                  have HGa := Lib.hid (show ga < (wr.alloc (.cells #[.int .u8 ((s : Int) / 256), .int .u8 ((s : Int) % 256)] 5)).drew.heap.size by simp; omega)
                  go_region_held3 (fun w' => w'.cell? ⟨ga, k, none⟩ = some (.int .i64 s)) (first | exact k3 | go_keep)
                    ((refine step_appO (by rfl) _ _ (by rfl) B0 g cap M (frontP rs ++ tailP ((starts 1 rs).drop (k + 1))) (some ⟨wr.heap.size, 0, none⟩) 2 2 [(s : Int) / 256, (s : Int) % 256] _ (by rfl) (by rfl) (by exact HBd.out) (by exact HNb.out) rfl (by decide) (by omega) (by exact HSd.out) ?_; intro g3 cap3 w3 hb3 hg3; have k3 := (hg3.cell_far ⟨ga, k, none⟩ HGa.out hne2).trans HCd.out))
                  have HI3 := Lib.hid ((show OwnI (wr.alloc (.cells #[.int .u8 ((s : Int) / 256), .int .u8 ((s : Int) % 256)] 5)).drew B0 (.slice (some ⟨ga, 0, none⟩) L capa) (startsI rs) from HI.out.kept (ba wr _).drew).far HBd.out hg3)
                  have HB3 := Lib.hid (below_appO (show Below B0 w (wr.alloc (.cells #[.int .u8 ((s : Int) / 256), .int .u8 ((s : Int) % 256)] 5)).drew from (bt' HB.out HS.out (ba wr _)).drew) HBd.out HSd.out hg3)
                  have HS3 := Lib.hid (show B0 ≤ w3.heap.size from Nat.le_trans HSd.out hg3.size)
                  have HBf3 := Lib.hid (show Buf w3 B0 g3 cap3 (M + 2) (frontP rs ++ tailP ((starts 1 rs).drop k)) by
                    rw [HDr.out, tailP, ← List.append_assoc, Int.natCast_ediv, Int.natCast_emod]
                    exact hb3)
                  clear hb3 hg3 HI HBj HB HS HNb HBd HSd HCd HGa k3 ha hga hne hne2 v1 v2 v3 v4
                  go_wp2_with fail
                  go_roundw
                  case rel => exact ⟨k, g3, cap3, M + 2, by omega, by go_num, rfl, by omega, HBf3, HI3, HS3, HB3⟩
                  case measure => simp [intOf]
end Go.Proofs.Ytdjhoiamongdaaa
