/-
  Plain: what a law's row asks of the end of its walk, for whatever arguments: true is told, and each argument reads as it did. Of whatever program.
Plain words about values: which may be, their order, truths. Nothing of the program stands here.
errors.As at a target of the program's own error type, by contracts; number: the number that an error goes by.
errors.As at a target of the program's own error type, by contracts.
A region that draws its order, walked by what each operation leaves: no order is told apart. Of each operation is shown, once, what it leaves where those hold that it waits for.
  Single operations, whatever else the slots hold: for regions walked by what each operation leaves.
Columns in memory; number; Find and what it leans on.
Find, the program's and the document's.
DERIVED: THE SHELF's CONTRACTS AT THIS DUMP, IN PLAIN WORDS (tools/lay-plain.mjs out of 'TryzShelf.lean', which tools/lay-shelf.mjs wrote): THE SAME DECLARATIONS UNDER THE SAME NAMES: 'import', 'namespace', 'open', 'def', 'theorem' AND NOTHING ELSE: no command of the shelf's: FOR A HAND-IN. Each laying: the table of numbers ('.._ren') and one theorem, a field a fact of the dump's own or the kernel's comparison; each contract: ONE APPLICATION.
-/
import Derived.WalkKit
import Derived.ProofKit
import Derived.Carry
import Derived.OpenShut
import Derived.Deep.DeepHandedRow
import Derived.WalkSpells
import Derived.WalkLawsBesides
import Derived.Test.YtofhaokaldpmaaaGreatDoorProg
import Derived.LaidEql
import Derived.Stop.Asserts
import Derived.RowKitTokens
import Derived.Lib.Hide
import Derived.Orders
import Derived.Deep.RegionHeld3
import Derived.Conc.Own4
import Derived.Tactics2
import Derived.Laws.Tables
import Derived.Shelf.Abstract
import Derived.Shelf.Strconv.Itoa0
import Derived.Shelf.Strings.Prefix
section
namespace Go.Proofs.YtofhaokaldpmaaaGreatDoor
open Go.ChangeShapes Go.WideShapes Go.ChangeAt Go.RowKit

section
variable {H : Type} {enc : TypeId × Value → H} {P : Program}

theorem belowAll (hl : laidOutB P = true) {W W' : World} (hb : Below W.heap.size W W') :
    ∀ {ts : List TypeId} {vs : List Value} {ds : List (DataW H)} {ps : List MemPlace}, (ts.all fun t => P.readableRec t && decide (t < P.types.size)) = true →
      DataW.TrodAll enc P W 0 (fun _ => true) true ts vs ds ps → (∀ x ∈ ps, x.block < W.heap.size) → DataW.TrodAll enc P W' 0 (fun b => decide (b < W.heap.size)) true ts vs ds ps
  | [], [], [], _, _, h, _ => h
  | [], [], _ :: _, _, _, h, _ => h.elim
  | [], _ :: _, _, _, _, h, _ => h.elim
  | _ :: _, [], _, _, _, h, _ => h.elim
  | _ :: _, _ :: _, [], _, _, h, _ => h.elim
  | t :: ts, v :: vs, d :: ds, ps, hr, h, hlt => by
    obtain ⟨p, q, h1, h2, rfl⟩ := h
    simp only [List.all_cons, Bool.and_eq_true, decide_eq_true_eq] at hr
    exact ⟨p, q, Below.trod hl hr.1.1 hr.1.2 h1 hb (fun x hx => hlt x (by simp [hx])), belowAll hl hb (by simpa using hr.2) h2 (fun x hx => hlt x (by simp [hx])), rfl⟩

/-- THE END OF A LAW's WALK IS ALL THAT ITS ROW ASKS. -/
theorem law_post {f : Func} {s : ChangeSpec} {W W' : World} {args : Array Value} {ds gs : List (DataW H)} {before : List MemPlace} {tb : TypeId} (hl : laidOutB P = true)
    (hts : (f.params.toList.all fun t => P.readableRec t && decide (t < P.types.size)) = true) (hres : f.resultTypes = #[tb]) (htb : P.underlying tb = some .bool)
    (hvars : s.vars = []) (hfn : s.fn H ds = { results := [.lit (.bool true)], args := ds })
    (hW : DataW.Whole enc P f.params.toList s.vars false W args.toList ds gs before) (hb : Below W.heap.size W W') :
    s.post enc P f false true false false W args (.bool true) W' := by
  have hW0 := hW
  obtain ⟨p, q, hA, hV, rfl, _, _⟩ := hW
  rw [hvars] at hV
  obtain ⟨rfl, rfl⟩ := trodVars_none hV
  refine ⟨ds, [], p ++ [], [], p, [], hW0, ?_, ?_, ?_, hb.frame _, fun h => by cases h⟩
  · rw [hres, List.append_nil, hfn]
    exact trodAll_mk1 (shut_bool htb _)
  · rw [List.append_nil, hfn]
    exact belowAll hl hb hts hA (fun x hx => by simpa using hW0.lt x (by simp [hx]))
  · rw [hvars, List.append_nil, hfn]
    rfl
end
end Go.Proofs.YtofhaokaldpmaaaGreatDoor
end
section
namespace Go.Proofs.YtofhaokaldpmaaaGreatDoor
open Go.RowKit

/-- A value as the program hands it about: its kind, its number, its text. -/
abbrev VV (k n : Int) (s : ByteArray) : Value := .agg #[.int .i64 k, .int .i64 n, .string s]

/-- May a value be? -/
def okV (k n : Int) (s : ByteArray) : Bool :=
  if k = 0 then n == 0 && s.toList.isEmpty
  else if k = 1 then (n == 0 || n == 1) && s.toList.isEmpty
  else if k = 2 then decide (-9007199254740991 ≤ n) && decide (n ≤ 9007199254740991) && s.toList.isEmpty
  else if k = 3 then n == 0 && decide (s.size ≤ 64)
  else false

/-- The order of ints, of texts, of values. -/
def cmpI (a b : Int) : Int := if a < b then -1 else if b < a then 1 else 0
def cmpS (a b : ByteArray) : Int := if Op.bytesLess a.toList b.toList then -1 else if a.toList == b.toList then 0 else 1
def cmpV (k n : Int) (s : ByteArray) (k' n' : Int) (s' : ByteArray) : Int :=
  if k = k' then (if n = n' then cmpS s s' else cmpI n n') else cmpI k k'

/-- Two values, held against each other; what is known of one; truths. -/
def eqV (k n : Int) (s : ByteArray) (k' n' : Int) (s' : ByteArray) : Bool := k == k' && n == n' && s.toList == s'.toList
def knownV (k n : Int) (s : ByteArray) : Bool := k != 0 && okV k n s
def equalV (k n : Int) (s : ByteArray) (k' n' : Int) (s' : ByteArray) : Int :=
  if knownV k n s && knownV k' n' s' then (if eqV k n s k' n' s' then 1 else 0) else 2
def lessV (k n : Int) (s : ByteArray) (k' n' : Int) (s' : ByteArray) : Int :=
  if knownV k n s && knownV k' n' s' then (if k = k' ∧ cmpV k n s k' n' s' < 0 then 1 else 0) else 2
def truthV (k n : Int) (s : ByteArray) : Int := if k = 1 ∧ okV k n s = true then n else 2

theorem bcell {W w1 : World} (hb : Below W.heap.size W w1) : (∀ b o, b < W.heap.size → w1.cell? ⟨b, o, none⟩ = W.cell? ⟨b, o, none⟩) ∧ (∀ b o, b < W.heap.size → w1.frozen? ⟨b, o, none⟩ = W.frozen? ⟨b, o, none⟩) :=
  ⟨fun b o h => hb.cell (p := ⟨b, o, none⟩) h, fun b o h => hb.frozen (p := ⟨b, o, none⟩) h⟩
theorem bt {w w1 w2 : World} (h1 : Below w.heap.size w w1) (h2 : Below w1.heap.size w1 w2) : Below w.heap.size w w2 := h1.trans (h2.mono h1.size)
theorem ba (w : World) (o : Obj) : Below w.heap.size w (w.alloc o) := (Below.refl _ _).alloc (Nat.le_refl _) _
theorem ba2 (w : World) (o1 o2 : Obj) : Below w.heap.size w ((w.alloc o1).alloc o2) := bt (ba _ _) (ba _ _)

/-- What lies in one box, in two boxes, behind calls that turn nothing of theirs. -/
theorem box1 {w w1 : World} {a0 a1 a2 : Value} {T : TypeId} (hb : Below (w.alloc (.cells #[a0, a1, a2] T)).heap.size (w.alloc (.cells #[a0, a1, a2] T)) w1) :
    w1.cell? ⟨w.heap.size, 0, none⟩ = some a0 ∧ w1.cell? ⟨w.heap.size, 1, none⟩ = some a1 ∧ w1.cell? ⟨w.heap.size, 2, none⟩ = some a2 :=
  ⟨(hb.cell (p := ⟨w.heap.size, 0, none⟩) (by simp)).trans (by simp), (hb.cell (p := ⟨w.heap.size, 1, none⟩) (by simp)).trans (by simp), (hb.cell (p := ⟨w.heap.size, 2, none⟩) (by simp)).trans (by simp)⟩
theorem box2 {w w1 : World} {a0 a1 a2 b0 b1 b2 : Value} {T T' : TypeId} (hb : Below ((w.alloc (.cells #[a0, a1, a2] T)).alloc (.cells #[b0, b1, b2] T')).heap.size ((w.alloc (.cells #[a0, a1, a2] T)).alloc (.cells #[b0, b1, b2] T')) w1) :
    w1.cell? ⟨w.heap.size, 0, none⟩ = some a0 ∧ w1.cell? ⟨w.heap.size, 1, none⟩ = some a1 ∧ w1.cell? ⟨w.heap.size, 2, none⟩ = some a2 ∧
    w1.cell? ⟨w.heap.size + 1, 0, none⟩ = some b0 ∧ w1.cell? ⟨w.heap.size + 1, 1, none⟩ = some b1 ∧ w1.cell? ⟨w.heap.size + 1, 2, none⟩ = some b2 := by
  obtain ⟨c0, c1, c2⟩ := box1 (bt (ba (w.alloc (.cells #[a0, a1, a2] T)) (.cells #[b0, b1, b2] T')) hb)
  obtain ⟨d0, d1, d2⟩ := box1 (w := w.alloc (.cells #[a0, a1, a2] T)) hb
  simp only [World.size_alloc] at d0 d1 d2
  exact ⟨c0, c1, c2, d0, d1, d2⟩
theorem box3 {w w1 : World} {a0 a1 a2 b0 b1 b2 c0 c1 c2 : Value} {T T' T'' : TypeId} (hb : Below (((w.alloc (.cells #[a0, a1, a2] T)).alloc (.cells #[b0, b1, b2] T')).alloc (.cells #[c0, c1, c2] T'')).heap.size (((w.alloc (.cells #[a0, a1, a2] T)).alloc (.cells #[b0, b1, b2] T')).alloc (.cells #[c0, c1, c2] T'')) w1) :
    w1.cell? ⟨w.heap.size, 0, none⟩ = some a0 ∧ w1.cell? ⟨w.heap.size, 1, none⟩ = some a1 ∧ w1.cell? ⟨w.heap.size, 2, none⟩ = some a2 ∧
    w1.cell? ⟨w.heap.size + 1, 0, none⟩ = some b0 ∧ w1.cell? ⟨w.heap.size + 1, 1, none⟩ = some b1 ∧ w1.cell? ⟨w.heap.size + 1, 2, none⟩ = some b2 ∧
    w1.cell? ⟨w.heap.size + 1 + 1, 0, none⟩ = some c0 ∧ w1.cell? ⟨w.heap.size + 1 + 1, 1, none⟩ = some c1 ∧ w1.cell? ⟨w.heap.size + 1 + 1, 2, none⟩ = some c2 := by
  obtain ⟨x0, x1, x2, y0, y1, y2⟩ := box2 (bt (ba ((w.alloc (.cells #[a0, a1, a2] T)).alloc (.cells #[b0, b1, b2] T')) (.cells #[c0, c1, c2] T'')) hb)
  obtain ⟨d0, d1, d2⟩ := box1 (w := (w.alloc (.cells #[a0, a1, a2] T)).alloc (.cells #[b0, b1, b2] T')) hb
  simp only [World.size_alloc] at d0 d1 d2
  exact ⟨x0, x1, x2, y0, y1, y2, d0, d1, d2⟩
theorem ret_bool {a b : Bool} (h : a = b) : Ending.returned (.bool a) = .returned (.bool b) := by rw [h]
theorem ret_int {k : IntKind} {a b : Int} (h : a = b) : Ending.returned (.int k a) = .returned (.int k b) := by rw [h]

end Go.Proofs.YtofhaokaldpmaaaGreatDoor
end
section
namespace Go.Proofs.YtofhaokaldpmaaaGreatDoor
open Go.RowKit Go.Extern.Stop Go.Stop Go.Extern

/-- The handle of a type. -/
abbrev hdl (t : TypeId) : Value := .pointer (some ⟨3, t, none⟩)
/-- What errors.errorType holds. -/
def ErrT (w : World) : Prop := w.cell? ⟨0, 0, none⟩ = some (.iface 127 (.agg #[hdl 52]))
theorem ErrT.kept {w w' : World} (h : ErrT w) (hb : Below w.heap.size w w') : ErrT w' := by
  have hl : (⟨0, 0, none⟩ : Addr).block < w.heap.size := by
    rcases Nat.lt_or_ge (0 : Nat) w.heap.size with h' | h'
    · exact h'
    · unfold ErrT at h
      rw [World.cell?, Array.getElem?_eq_none h'] at h; cases h
  exact (hb.cell hl).trans h
theorem vOfP (t : Addr) (w : World) : (ReflectliteValue.unpack (.iface 78 (.pointer (some t)))).run Tryz.prog w
    = .ok (.agg #[hdl 78, .pointer (some ⟨w.heap.size, 0, none⟩), .int .u64 150]) (w.alloc (.cells #[.pointer (some t)] 78)) := by kernel_rfl
theorem typP (a : Addr) (w : World) : (ReflectliteValue.methodAny (ReflectliteValue.valueError "reflectlite.Value.Type" 0) (fun t _ _ _ => ReflectliteType.toType t) #[.agg #[hdl 78, .pointer (some a), .int .u64 150]]).run Tryz.prog w
    = .ok (.iface 127 (.agg #[hdl 78])) w := by kernel_rfl
theorem kndP (w : World) : ((ReflectliteType.abiMethod fun t => (fun a : Nat => Value.int IntKind.u8 (a : Int)) <$> Rtype.kind t) #[hdl 78]).run Tryz.prog w = .ok (.int .u8 22) w := by kernel_rfl
theorem kndR (w : World) : ((ReflectliteType.abiMethod fun t => (fun a : Nat => Value.int IntKind.u8 (a : Int)) <$> Rtype.kind t) #[hdl 68]).run Tryz.prog w = .ok (.int .u8 25) w := by kernel_rfl
theorem rlmM (z : Sem Value) (f : TypeId → Addr → Nat → Nat → Sem Value) (v : Value) :
    ReflectliteValue.method z f #[v] = (do match ← ReflectliteValue.parts v with | none => z | some (t, a, fl) => f t a fl (fl % 32)) := rfl
theorem parP (a : Addr) (w : World) : (ReflectliteValue.parts (.agg #[hdl 78, .pointer (some a), .int .u64 150])).run Tryz.prog w = .ok (some (78, a, 150)) w := by kernel_rfl
theorem nilP (a p : Addr) (W : World) (ha : W.cell? a = some (.pointer (some p))) :
    (ReflectliteValue.method (ReflectliteValue.valueError "reflectlite.Value.IsNil" 0) ReflectliteValue.isNil #[.agg #[hdl 78, .pointer (some a), .int .u64 150]]).run Tryz.prog W = .ok (.bool false) W := by
  rw [rlmM]
  simp only [Sem.run_bind, parP, Result.andThen]
  simp [ReflectliteValue.isNil, loadVar, isAgg, underlying, Tryz.underlying78, ha, Result.andThen]
theorem elmP (w : World) : (ReflectliteType.method ReflectliteType.elem #[.agg #[hdl 78]]).run Tryz.prog w = .ok (.iface 127 (.agg #[hdl 68])) w := by kernel_rfl
theorem impR (w : World) : (ReflectliteType.relation "Implements" ReflectliteType.implements_ #[.agg #[hdl 68], .iface 127 (.agg #[hdl 52])]).run Tryz.prog w = .ok (.bool true) w := by kernel_rfl
theorem tOfR (v : Value) (w : World) : (ReflectliteType.typeOf #[.iface 68 v]).run Tryz.prog w = .ok (.iface 127 (.agg #[hdl 68])) w := by kernel_rfl
theorem asgR (w : World) : (ReflectliteType.relation "AssignableTo" ReflectliteType.assignableTo #[.agg #[hdl 68], .iface 127 (.agg #[hdl 68])]).run Tryz.prog w = .ok (.bool true) w := by kernel_rfl
theorem vOfR (n : Int) (w : World) : (ReflectliteValue.unpack (.iface 68 (.agg #[.int .i64 n]))).run Tryz.prog w
    = .ok (.agg #[hdl 68, .pointer (some ⟨w.heap.size, 0, none⟩), .int .u64 153]) (w.alloc (.cells #[.int .i64 n] 68)) := by kernel_rfl
theorem elmOf (w : World) : (Rtype.elem? 78).run Tryz.prog w = .ok (some 68) w := by kernel_rfl
theorem mkR (p : Addr) (w : World) : (ReflectliteValue.mk 68 p ReflectliteValue.flagAddr).run Tryz.prog w = .ok (.agg #[hdl 68, .pointer (some p), .int .u64 409]) w := by kernel_rfl
theorem elVP (a p : Addr) (W : World) (ha : W.cell? a = some (.pointer (some p))) :
    (ReflectliteValue.method (ReflectliteValue.valueError "reflectlite.Value.Elem" 0) ReflectliteValue.elem #[.agg #[hdl 78, .pointer (some a), .int .u64 150]]).run Tryz.prog W
      = .ok (.agg #[hdl 68, .pointer (some p), .int .u64 409]) W := by
  rw [rlmM]
  simp only [Sem.run_bind, parP, Result.andThen]
  simp [ReflectliteValue.elem, loadVar, isAgg, underlying, Tryz.underlying78, ha, Result.andThen, elmOf, mkR]
theorem rlsS (v x : Value) : ReflectliteValue.set #[v, x] = (do
    let (some (dst, a, fl), some (src, b, _)) := (← ReflectliteValue.parts v, ← ReflectliteValue.parts x)
      | unsupported (.noEntry "extern/(internal/reflectlite.Value).Set.zeroValue")
    if fl / ReflectliteValue.flagAddr % 2 == 0 then unsupported (.noEntry "extern/(internal/reflectlite.Value).Set.unaddressable")
    let val ← loadVar src b
    if ← Rtype.directlyAssignable dst src then storeVar dst a val
    else if ← Rtype.implements dst src then
      if (← Rtype.kind src) == 20 then
        match val with
        | .nilIface => unsupported (.noEntry "extern/reflectlite: a nil value of one interface type handed on as a value of another")
        | _ => storeVar dst a val
      else storeVar dst a (.iface src val)
    else panicString ("reflectlite.Set: value of type " ++ (← Rtype.spelt src) ++ " is not assignable to type " ++ (← Rtype.spelt dst))
    pure (.tuple #[])) := rfl
theorem parRa (a : Addr) (w : World) : (ReflectliteValue.parts (.agg #[hdl 68, .pointer (some a), .int .u64 409])).run Tryz.prog w = .ok (some (68, a, 409)) w := by kernel_rfl
theorem parR (a : Addr) (w : World) : (ReflectliteValue.parts (.agg #[hdl 68, .pointer (some a), .int .u64 153])).run Tryz.prog w = .ok (some (68, a, 153)) w := by kernel_rfl
theorem dirR (w : World) : (Rtype.directlyAssignable 68 68).run Tryz.prog w = .ok true w := by kernel_rfl
set_option maxRecDepth 100000 in
theorem setR (ta b : Nat) (n : Int) (old : Value) (W : World) (hb : W.cell? ⟨b, 0, none⟩ = some (.int .i64 n)) (ht : W.cell? ⟨ta, 0, none⟩ = some old) (hf : W.frozen? ⟨ta, 0, none⟩ = false) :
    (ReflectliteValue.set #[.agg #[hdl 68, .pointer (some ⟨ta, 0, none⟩), .int .u64 409], .agg #[hdl 68, .pointer (some ⟨b, 0, none⟩), .int .u64 153]]).run Tryz.prog W
      = .ok (.tuple #[]) (W.setCell ⟨ta, 0, none⟩ (.int .i64 n)) := by
  rw [rlsS]
  simp only [Sem.run_bind, parRa, parR, Result.andThen]
  have hld : (loadVar 68 ⟨b, 0, none⟩).run Tryz.prog W = .ok (.agg #[.int .i64 n]) W := by
    have h : (Instr.loadAt 68 (.pointer (some ⟨b, 0, none⟩))).run Tryz.prog W = .ok (.agg #[.int .i64 n]) W := by go_simp
    simpa [Instr.loadAt, Instr.sureAddr] using h
  have hst : (storeVar 68 ⟨ta, 0, none⟩ (.agg #[.int .i64 n])).run Tryz.prog W = .ok () (W.setCell ⟨ta, 0, none⟩ (.int .i64 n)) := by
    simp [storeVar, Value.cells, storeCells, Addr.add]
    rw [run_store Tryz.prog W ⟨ta, 0, none⟩ _ _ (by rfl)]
    simp [ht, hf]
  simp [ReflectliteValue.flagAddr, hld, hst, dirR, Result.andThen]
end Go.Proofs.YtofhaokaldpmaaaGreatDoor
end
section
namespace Go.Proofs.YtofhaokaldpmaaaGreatDoor
open Go.RowKit Go.Extern.Stop Go.Stop Go.Extern

theorem mKnd (h : Value) (w : World) : (Go.method 298 127 (.agg #[h]) "Kind").run Tryz.prog w = .ok (141, h) w := by kernel_rfl
theorem mElm (h : Value) (w : World) : (Go.method 298 127 (.agg #[h]) "Elem").run Tryz.prog w = .ok (151, .agg #[h]) w := by kernel_rfl
theorem mImp (h : Value) (w : World) : (Go.method 298 127 (.agg #[h]) "Implements").run Tryz.prog w = .ok (152, .agg #[h]) w := by kernel_rfl
theorem mAsg (h : Value) (w : World) : (Go.method 298 127 (.agg #[h]) "AssignableTo").run Tryz.prog w = .ok (149, .agg #[h]) w := by kernel_rfl
theorem as_nil (t : Value) (w : World) :
    Calls Tryz.prog 46 #[.nilIface, t] w fun e w' => e = .returned (.bool false) ∧ w' = w := by
  go_enter Tryz.func46, Tryz.ntmps46
  go_wp2
  go_ret
  exact ⟨rfl, rfl⟩
abbrev vbx (b : Nat) : Obj := .cells #[hdl 78, .pointer (some ⟨b, 0, none⟩), .int .u64 150] 96
set_option maxHeartbeats 4000000 in
set_option maxRecDepth 100000 in
theorem as_hit (t : Nat) (n : Int) (old : Value) (w : World) (hg : ErrT w) (ht0 : w.cell? ⟨t, 0, none⟩ = some old) (hf0 : w.frozen? ⟨t, 0, none⟩ = false) :
    Calls Tryz.prog 46 #[.iface 68 (.agg #[.int .i64 n]), .iface 78 (.pointer (some ⟨t, 0, none⟩))] w fun ev w' => ev = .returned (.bool true) ∧ Below t w w' ∧ w'.cell? ⟨t, 0, none⟩ = some (.int .i64 n) := by
  have h6 := @run_callFunc_extern Tryz.prog 60 _ (fun args => ReflectliteValue.unpack (args.getD 0 (.tuple #[]))) Tryz.func60 (by kernel_rfl) (by kernel_rfl) (by kernel_rfl) (by kernel_rfl)
  have h7 := @run_callFunc_extern Tryz.prog 61 _ (ReflectliteValue.methodAny (ReflectliteValue.valueError "reflectlite.Value.Type" 0) (fun t _ _ _ => ReflectliteType.toType t)) Tryz.func61 (by kernel_rfl) (by kernel_rfl) (by kernel_rfl) (by kernel_rfl)
  have h8 := @run_callFunc_extern Tryz.prog 62 _ (ReflectliteValue.method (ReflectliteValue.valueError "reflectlite.Value.IsNil" 0) ReflectliteValue.isNil) Tryz.func62 (by kernel_rfl) (by kernel_rfl) (by kernel_rfl) (by kernel_rfl)
  have h27 := @run_callFunc_extern Tryz.prog 141 _ (ReflectliteType.abiMethod fun t => do pure (.int .u8 (← Rtype.kind t))) Tryz.func141 (by kernel_rfl) (by kernel_rfl) (by kernel_rfl) (by kernel_rfl)
  have h37 := @run_callFunc_extern Tryz.prog 151 _ (ReflectliteType.method ReflectliteType.elem) Tryz.func151 (by kernel_rfl) (by kernel_rfl) (by kernel_rfl) (by kernel_rfl)
  have h38 := @run_callFunc_extern Tryz.prog 152 _ (ReflectliteType.relation "Implements" ReflectliteType.implements_) Tryz.func152 (by kernel_rfl) (by kernel_rfl) (by kernel_rfl) (by kernel_rfl)
  have h10 := @run_callFunc_extern Tryz.prog 84 _ ReflectliteType.typeOf Tryz.func84 (by kernel_rfl) (by kernel_rfl) (by kernel_rfl) (by kernel_rfl)
  have h35 := @run_callFunc_extern Tryz.prog 149 _ (ReflectliteType.relation "AssignableTo" ReflectliteType.assignableTo) Tryz.func149 (by kernel_rfl) (by kernel_rfl) (by kernel_rfl) (by kernel_rfl)
  have h11 := @run_callFunc_extern Tryz.prog 85 _ (ReflectliteValue.method (ReflectliteValue.valueError "reflectlite.Value.Elem" 0) ReflectliteValue.elem) Tryz.func85 (by kernel_rfl) (by kernel_rfl) (by kernel_rfl) (by kernel_rfl)
  have h12 := @run_callFunc_extern Tryz.prog 86 _ ReflectliteValue.set Tryz.func86 (by kernel_rfl) (by kernel_rfl) (by kernel_rfl) (by kernel_rfl)
  have tO := tOfR
  have mA := mAsg
  have aR := asgR
  have vR := vOfR
  have f6 := vOfP
  have f7 := typP
  have mK := mKnd
  have mE := mElm
  have mI := mImp
  have kP := kndP
  have kR := kndR
  have eP := elmP
  have iR := impR
  have htl : t < w.heap.size := by
    rcases Nat.lt_or_ge t w.heap.size with h | h
    · exact h
    · simp [World.cell?, Array.getElem?_eq_none h] at ht0
  have hb1 := ba w (.cells #[.pointer (some ⟨t, 0, none⟩)] 78)
  have hb2 := bt hb1 (ba _ (vbx w.heap.size))
  have hb3 := bt hb2 (ba _ (vbx w.heap.size))
  have hb4 := bt hb3 (ba _ (.cells #[.int .i64 n] 68))
  have n8 := nilP ⟨w.heap.size, 0, none⟩ ⟨t, 0, none⟩ ((w.alloc (.cells #[.pointer (some ⟨t, 0, none⟩)] 78)).alloc (vbx w.heap.size)) (by simp)
  have hg2 : ((w.alloc (.cells #[.pointer (some ⟨t, 0, none⟩)] 78)).alloc (vbx w.heap.size)).cell? ⟨0, 0, none⟩ = some (.iface 127 (.agg #[hdl 52])) := hg.kept hb2
  have el := elVP ⟨w.heap.size, 0, none⟩ ⟨t, 0, none⟩ (((w.alloc (.cells #[.pointer (some ⟨t, 0, none⟩)] 78)).alloc (vbx w.heap.size)).alloc (vbx w.heap.size)) (by rw [World.cell?_alloc_lt _ _ ⟨w.heap.size, 0, none⟩ (by simp; omega)]; simp)
  have st := setR t (w.heap.size + 1 + 1 + 1) n old ((((w.alloc (.cells #[.pointer (some ⟨t, 0, none⟩)] 78)).alloc (vbx w.heap.size)).alloc (vbx w.heap.size)).alloc (.cells #[.int .i64 n] 68))
    (by rw [World.cell?_alloc_at _ _ _ _ (by simp)]; rfl) ((hb4.cell (p := ⟨t, 0, none⟩) htl).trans ht0) ((hb4.frozen (p := ⟨t, 0, none⟩) htl).trans hf0)
  go_enter Tryz.func46, Tryz.ntmps46
  go_wp2
  refine wp_loop_rounds 1 ?_
  rw [rounds_succ]
  go_wp2
  go_ret
  refine ⟨rfl, ?_, ?_⟩
  · exact (hb4.mono (Nat.le_of_lt htl)).setCell (Nat.le_refl _) _
  · exact World.cell?_setCell_same _ _ _ ((hb4.cell (p := ⟨t, 0, none⟩) htl).trans ht0)
end Go.Proofs.YtofhaokaldpmaaaGreatDoor
end
section
namespace Go.Proofs.YtofhaokaldpmaaaGreatDoor
section

def slotAt (ds : List (Option Tmp)) (a : Act) (k : Nat) : Value := match (ds[k]?).getD none with | some t => a.tmps.getD t undef | none => undef
def puts : List (Option Tmp) → (Nat → Value) → Nat → Act → Act
  | [], _, _, a => a
  | d :: r, v, i, a => puts r v (i + 1) (a.put d (v i))
theorem put_size (a : Act) (d : Option Tmp) (v : Value) : (a.put d v).tmps.size = a.tmps.size := by cases d <;> simp [Act.put]
theorem put_defers (a : Act) (d : Option Tmp) (v : Value) : (a.put d v).defers = a.defers := by cases d <;> rfl
theorem put_get (a : Act) (d : Option Tmp) (v : Value) (t : Nat) (h : d ≠ some t) : (a.put d v).tmps.getD t undef = a.tmps.getD t undef := by
  cases d with
  | none => rfl
  | some u =>
    have hu : u ≠ t := fun e => h (by rw [e])
    simp [Act.put, Array.getD_eq_getD_getElem?, hu]
theorem put_at (a : Act) (v : Value) (t : Nat) (h : t < a.tmps.size) : (a.put (some t) v).tmps.getD t undef = v := by
  simp [Act.put, Array.getD_eq_getD_getElem?, h]
theorem puts_size : ∀ (ds : List (Option Tmp)) (v : Nat → Value) (i : Nat) (a : Act), (puts ds v i a).tmps.size = a.tmps.size
  | [], _, _, _ => rfl
  | d :: r, v, i, a => by rw [puts, puts_size r, put_size]
theorem puts_defers : ∀ (ds : List (Option Tmp)) (v : Nat → Value) (i : Nat) (a : Act), (puts ds v i a).defers = a.defers
  | [], _, _, _ => rfl
  | d :: r, v, i, a => by rw [puts, puts_defers r, put_defers]
theorem puts_other : ∀ (ds : List (Option Tmp)) (v : Nat → Value) (i : Nat) (a : Act) (t : Nat), (∀ d ∈ ds, d ≠ some t) → (puts ds v i a).tmps.getD t undef = a.tmps.getD t undef
  | [], _, _, _, _, _ => rfl
  | d :: r, v, i, a, t, h => by rw [puts, puts_other r _ _ _ _ (fun x hx => h x (List.mem_cons_of_mem _ hx)), put_get _ _ _ _ (h d (List.mem_cons_self ..))]
/-- The slots are apart, and there. -/
def apartB : List (Option Tmp) → Nat → Bool
  | [], _ => true
  | none :: r, n => apartB r n
  | some t :: r, n => decide (t < n) && r.all (fun d => d != some t) && apartB r n
theorem puts_at : ∀ (ds : List (Option Tmp)) (v : Nat → Value) (i : Nat) (a : Act) (k t : Nat), apartB ds a.tmps.size = true → ds[k]? = some (some t) → (puts ds v i a).tmps.getD t undef = v (i + k)
  | [], _, _, _, k, t, _, hk => by simp at hk
  | d :: r, v, i, a, 0, t, hap, hk => by
    simp only [List.getElem?_cons_zero, Option.some.injEq] at hk
    subst hk
    simp only [apartB, Bool.and_eq_true, decide_eq_true_eq, List.all_eq_true] at hap
    rw [puts, puts_other r _ _ _ _ (fun x hx => by simpa using hap.1.2 x hx), put_at _ _ _ hap.1.1, Nat.add_zero]
  | d :: r, v, i, a, k + 1, t, hap, hk => by
    have hap' : apartB r (a.put d (v i)).tmps.size = true := by
      rw [put_size]
      cases d with
      | none => simpa [apartB] using hap
      | some u => simp only [apartB, Bool.and_eq_true] at hap; exact hap.2
    rw [puts, puts_at r v (i + 1) _ k t hap' (by simpa using hk)]
    congr 1; omega
theorem apart_ne : ∀ (ds : List (Option Tmp)) (n i j t : Nat), apartB ds n = true → ds[i]? = some (some t) → ds[j]? = some (some t) → i = j
  | [], _, i, j, t, _, hi, _ => by simp at hi
  | d :: r, n, 0, 0, t, _, _, _ => rfl
  | d :: r, n, i + 1, j + 1, t, h, hi, hj => by
    have h' : apartB r n = true := by
      cases d with
      | none => simpa [apartB] using h
      | some u => simp only [apartB, Bool.and_eq_true] at h; exact h.2
    rw [apart_ne r n i j t h' (by simpa using hi) (by simpa using hj)]
  | d :: r, n, 0, j + 1, t, h, hi, hj => by
    simp only [List.getElem?_cons_zero, Option.some.injEq] at hi
    subst hi
    simp only [apartB, Bool.and_eq_true, List.all_eq_true] at h
    have := h.1.2 (some t) (List.mem_of_getElem? (by simpa using hj))
    simp at this
  | d :: r, n, i + 1, 0, t, h, hi, hj => by
    simp only [List.getElem?_cons_zero, Option.some.injEq] at hj
    subst hj
    simp only [apartB, Bool.and_eq_true, List.all_eq_true] at h
    have := h.1.2 (some t) (List.mem_of_getElem? (by simpa using hi))
    simp at this
theorem apart_lt : ∀ (ds : List (Option Tmp)) (n k t : Nat), apartB ds n = true → ds[k]? = some (some t) → t < n
  | [], _, k, t, _, hk => by simp at hk
  | d :: r, n, 0, t, h, hk => by
    simp only [List.getElem?_cons_zero, Option.some.injEq] at hk
    subst hk
    simp only [apartB, Bool.and_eq_true, decide_eq_true_eq] at h
    exact h.1.1
  | d :: r, n, k + 1, t, h, hk => by
    have h' : apartB r n = true := by
      cases d with
      | none => simpa [apartB] using h
      | some u => simp only [apartB, Bool.and_eq_true] at h; exact h.2
    exact apart_lt r n k t h' (by simpa using hk)
/-- What each operation waits for. -/
def afterL (ops : List Oper) : List (List Nat) := ops.map fun o => (o.after.toList.filter (Region.binds .any)).map (·.on)
/-- need: what has come up, whenever an operation has; closed under waiting. Each waits for earlier ones alone. -/
def needB (afs need : List (List Nat)) : Bool :=
  (List.range afs.length).all fun i => (afs.getD i []).all (fun j => decide (j < i)) && (need.getD i []).all (fun j => (afs.getD i []).contains j || (afs.getD i []).any (fun m => (need.getD m []).contains j))
/-- The tail waits for all ahead of it. -/
def tailB (afs need : List (List Nat)) (n : Nat) : Bool := (List.range afs.length).all fun i => decide (i < n) || (List.range n).all (fun k => (afs.getD i []).contains k || (need.getD i []).contains k)

variable {P : Program} {ops : List Oper}
structure Inv (n : Nat) (ds : List (Option Tmp)) (need : List (List Nat)) (a0 : Act) (w0 : World) (R : World → World → Prop) (Gs : List (Value → World → Prop)) (listed : Array Bool) (a : Act) (w : World) : Prop where
  defers : a.defers = a0.defers
  size : a.tmps.size = a0.tmps.size
  lsize : listed.size = ds.length
  out : ∀ k, n ≤ k → listed.getD k false = false
  grow : R w0 w
  rest : ∀ t, (∀ k, k < n → listed.getD k false = true → ds[k]? ≠ some (some t)) → a.tmps.getD t undef = a0.tmps.getD t undef
  facts : ∀ k, k < n → listed.getD k false = true → (Gs.getD k (fun _ _ => True)) (slotAt ds a k) w
  clos : ∀ k, k < n → listed.getD k false = true → ∀ j ∈ need.getD k [], j < n ∧ listed.getD j false = true
/-- What is to be shown of one operation. -/
def StepOk (P : Program) (ops : List Oper) (ds : List (Option Tmp)) (need : List (List Nat)) (a0 : Act) (w0 : World) (R : World → World → Prop) (Gs : List (Value → World → Prop)) (Q : Exit → Act → World → Prop) (i : Nat) (o : Oper) : Prop :=
  ∀ a w, a.tmps.size = a0.tmps.size → R w0 w → (∀ t, (∀ d ∈ ds, d ≠ some t) → a.tmps.getD t undef = a0.tmps.getD t undef) → (∀ j ∈ need.getD i [], (Gs.getD j (fun _ _ => True)) (slotAt ds a j) w) →
    (Region.wanted o (yielded ops.toArray a.tmps) = true ∧ o.wp P a w (fun a' w' => ∃ v, a' = a.put o.dst v ∧ R w w' ∧ (Gs.getD i (fun _ _ => True)) (if o.dst.isSome then v else undef) w') Q) ∨
    (Region.wanted o (yielded ops.toArray a.tmps) = false ∧ (Gs.getD i (fun _ _ => True)) undef w)
/-- What holds goes on to hold. -/
def Keeps (R : World → World → Prop) (g : Value → World → Prop) : Prop := ∀ v w w', R w w' → g v w → g v w'
def Each (P : Program) (ops : List Oper) (ds : List (Option Tmp)) (need : List (List Nat)) (a0 : Act) (w0 : World) (R : World → World → Prop) (Gs : List (Value → World → Prop)) (Q : Exit → Act → World → Prop) (n i : Nat) : Prop :=
  ∀ k, i ≤ k → k < n → Keeps R (Gs.getD k (fun _ _ => True)) ∧ ∀ o, ops[k]? = some o → StepOk P ops ds need a0 w0 R Gs Q k o
theorem Each.nil {ds need a0 w0 R Gs Q n} : Each P ops ds need a0 w0 R Gs Q n n := fun k h1 h2 => by omega
theorem Each.cons {ds need a0 w0 R Gs Q n} {i : Nat} {o : Oper} (ho : ops[i]? = some o) (hk : Keeps R (Gs.getD i (fun _ _ => True))) (hs : StepOk P ops ds need a0 w0 R Gs Q i o) (hr : Each P ops ds need a0 w0 R Gs Q n (i + 1)) : Each P ops ds need a0 w0 R Gs Q n i := by
  intro k h1 h2
  rcases Nat.lt_or_eq_of_le h1 with h | rfl
  · exact hr k h h2
  · refine ⟨hk, fun o' ho' => ?_⟩
    rw [ho] at ho'
    cases ho'
    exact hs
def cntT (l : Array Bool) (n : Nat) : Nat := (List.range n).countP (fun k => l.getD k false)
theorem cntT_set (l : Array Bool) (i : Nat) (hi : i < l.size) (hf : l.getD i false = false) : ∀ n, cntT (l.setIfInBounds i true) n = cntT l n + (if i < n then 1 else 0)
  | 0 => by simp [cntT]
  | n + 1 => by
    have ih := cntT_set l i hi hf n
    unfold cntT at ih ⊢
    rw [List.range_succ, List.countP_append, List.countP_append, ih]
    by_cases h : n = i
    · subst h
      have e1 : (l.setIfInBounds n true).getD n false = true := by simp [Array.getD_eq_getD_getElem?, hi]
      simp only [List.countP_cons, List.countP_nil, e1, hf]
      simp
    · have e1 : (l.setIfInBounds i true).getD n false = l.getD n false := by simp [Array.getD_eq_getD_getElem?, Ne.symm h]
      simp only [List.countP_cons, List.countP_nil, e1]
      by_cases h2 : i < n
      · rw [if_pos h2, if_pos (show i < n + 1 by omega)]; split <;> omega
      · rw [if_neg h2, if_neg (show ¬ i < n + 1 by omega)]; split <;> omega
theorem cntT_all {l : Array Bool} {n : Nat} (h : cntT l n = n) : ∀ k, k < n → l.getD k false = true := by
  unfold cntT at h
  have h2 : (List.range n).countP (fun k => l.getD k false) = (List.range n).length := by rw [h, List.length_range]
  intro k hk
  exact List.countP_eq_length.1 h2 k (List.mem_range.2 hk)
theorem cntT_le (l : Array Bool) (n : Nat) : cntT l n ≤ n := by
  unfold cntT
  exact Nat.le_trans List.countP_le_length (by simp)
theorem getD_set_ne (l : Array Bool) {i k : Nat} (h : k ≠ i) : (l.setIfInBounds i true).getD k false = l.getD k false := by simp [Array.getD_eq_getD_getElem?, Ne.symm h]
theorem getD_set_eq (l : Array Bool) {i : Nat} (h : i < l.size) : (l.setIfInBounds i true).getD i false = true := by simp [Array.getD_eq_getD_getElem?, h]
def tailL (n m : Nat) : Array Bool := (List.replicate n true ++ List.replicate (m - n) false).toArray
theorem act_ext {a b : Act} (h1 : a.tmps = b.tmps) (h2 : a.defers = b.defers) : a = b := by cases a; cases b; simp_all
theorem ready_mem {listed : Array Bool} {i : Nat} : i ∈ Region.ready .any ops.toArray listed ↔ i < ops.length ∧ listed.getD i true = false ∧ ∀ j ∈ (afterL ops).getD i [], listed.getD j false = true := by
  simp only [Region.ready, List.mem_filter, List.mem_range, List.size_toArray]
  refine and_congr_right fun hi => ?_
  have ho : ops[i]? = some ops[i] := List.getElem?_eq_getElem hi
  have ha : (afterL ops).getD i [] = (ops[i].after.toList.filter (Region.binds .any)).map (·.on) := by
    simp [afterL, List.getD_eq_getElem?_getD, List.getElem?_map, ho]
  rw [ha]
  simp only [List.getElem?_toArray, ho, Option.map_some, Option.getD_some, Bool.and_eq_true, Bool.not_eq_true', List.mem_map, List.mem_filter, ← Array.all_toList, List.all_eq_true, Bool.or_eq_true]
  refine and_congr_right fun _ => ⟨?_, ?_⟩
  · rintro h j ⟨e, ⟨he, hb⟩, rfl⟩
    rcases h e he with h | h
    · rw [h] at hb; cases hb
    · exact h
  · intro h e he
    cases hb : Region.binds .any e with
    | false => exact .inl rfl
    | true => exact .inr (h e.on ⟨e, ⟨he, hb⟩, rfl⟩)
theorem inv_end {n : Nat} {ds need a0 w0 R Gs} {listed : Array Bool} {a : Act} {w : World} (hap : apartB (ds.take n) a0.tmps.size = true) (hn : n ≤ ds.length) (h : Inv n ds need a0 w0 R Gs listed a w) (hall : ∀ k, k < n → listed.getD k false = true) :
    listed = tailL n ds.length ∧ ∃ v : Nat → Value, a = puts (ds.take n) v 0 a0 ∧ ∀ k, k < n → (Gs.getD k (fun _ _ => True)) (match (ds[k]?).getD none with | some _ => v k | none => undef) w := by
  refine ⟨?_, (fun k : Nat => slotAt ds a k), ?_, fun k hk => ?_⟩
  · refine Array.ext (by rw [h.lsize]; simp [tailL]; omega) fun i h1 h2 => ?_
    have e1 : listed[i] = listed.getD i false := by simp [Array.getD_eq_getD_getElem?, h1]
    rw [e1]
    by_cases hi : i < n
    · rw [hall i hi]; simp [tailL, hi]
    · rw [h.out i (by omega)]; simp [tailL, List.getElem_append, hi]
  · refine act_ext ?_ (by rw [puts_defers]; exact h.defers)
    have hsz : a.tmps.size = (puts (ds.take n) (fun k => slotAt ds a k) 0 a0).tmps.size := by rw [puts_size]; exact h.size
    refine Array.ext hsz fun t h1 h2 => ?_
    have e1 : a.tmps[t] = a.tmps.getD t undef := by simp [Array.getD_eq_getD_getElem?, h1]
    have e2 : (puts (ds.take n) (fun k => slotAt ds a k) 0 a0).tmps[t] = (puts (ds.take n) (fun k => slotAt ds a k) 0 a0).tmps.getD t undef := by simp [Array.getD_eq_getD_getElem?, h2]
    rw [e1, e2]
    by_cases hd : ∃ k : Nat, (ds.take n)[k]? = some (some t)
    · obtain ⟨k, hk⟩ := hd
      rw [puts_at _ _ _ _ k t hap hk, Nat.zero_add]
      have hk2 : ds[k]? = some (some t) := by
        rw [List.getElem?_take] at hk
        split at hk
        · exact hk
        · cases hk
      unfold slotAt
      rw [hk2]
      rfl
    · have hno : ∀ d ∈ ds.take n, d ≠ some t := fun d hd2 e => by
        subst e
        obtain ⟨k, hk⟩ := List.getElem?_of_mem hd2
        exact hd ⟨k, hk⟩
      rw [puts_other _ _ _ _ _ hno]
      refine h.rest t fun k hk _ e => hd ⟨k, ?_⟩
      rw [List.getElem?_take, if_pos hk]
      exact e
  · have := h.facts k hk (hall k hk)
    unfold slotAt at this ⊢
    cases hd : (ds[k]?).getD none with
    | none => rw [hd] at this; exact this
    | some t => rw [hd] at this; simp only [hd]; exact this

theorem wpAny_inv {n : Nat} {ds : List (Option Tmp)} {need : List (List Nat)} {a0 : Act} {w0 : World} {R : World → World → Prop} {Gs : List (Value → World → Prop)} {Q : Exit → Act → World → Prop}
    (hds : ops.map (·.dst) = ds) (hn : n ≤ ops.length) (hap : apartB (ds.take n) a0.tmps.size = true) (hneed : needB (afterL ops) need = true) (htail : tailB (afterL ops) need n = true)
    (hRr : ∀ x, R x x) (hT : ∀ x y z, R x y → R y z → R x z) (hE : Each P ops (ds.take n) need a0 w0 R Gs Q n 0)
    (hend : ∀ (v : Nat → Value) w, R w0 w → (∀ k, k < n → (Gs.getD k (fun _ _ => True)) (match (ds[k]?).getD none with | some _ => v k | none => undef) w) → wpAny P .any ops.toArray Q (ops.length - n) (tailL n ops.length) (puts (ds.take n) v 0 a0) w) :
    ∀ (m : Nat) (listed : Array Bool) (a : Act) (w : World), Inv n ds need a0 w0 R Gs listed a w → cntT listed n + m = n → wpAny P .any ops.toArray Q (m + (ops.length - n)) listed a w := by
  have hdl : ds.length = ops.length := by rw [← hds, List.length_map]
  have hal : (afterL ops).length = ops.length := by simp [afterL]
  have nd : ∀ i, i < ops.length → (∀ j ∈ (afterL ops).getD i [], j < i) ∧ (∀ j ∈ need.getD i [], j ∈ (afterL ops).getD i [] ∨ ∃ m ∈ (afterL ops).getD i [], j ∈ need.getD m []) := by
    intro i hi
    have h := List.all_eq_true.1 hneed i (List.mem_range.2 (by omega))
    simp only [Bool.and_eq_true, List.all_eq_true, decide_eq_true_eq, Bool.or_eq_true, List.any_eq_true, List.contains_iff_mem] at h
    exact ⟨h.1, fun j hj => (h.2 j hj).imp id (fun ⟨m, h1, h2⟩ => ⟨m, h1, h2⟩)⟩
  have tl : ∀ i, n ≤ i → i < ops.length → ∀ k, k < n → k ∈ (afterL ops).getD i [] ∨ k ∈ need.getD i [] := by
    intro i h1 h2 k hk
    have h := List.all_eq_true.1 htail i (List.mem_range.2 (by omega))
    simp only [Bool.or_eq_true, decide_eq_true_eq, List.all_eq_true, List.contains_iff_mem, List.mem_range] at h
    exact h.resolve_left (by omega) k hk
  intro m
  induction m with
  | zero =>
    intro listed a w h hc
    obtain ⟨rfl, v, rfl, hg⟩ := inv_end hap (by omega) h (cntT_all (by omega))
    rw [Nat.zero_add, hdl]
    exact hend v w h.grow hg
  | succ m ih =>
    intro listed a w h hc
    rw [show m + 1 + (ops.length - n) = (m + (ops.length - n)) + 1 by omega]
    -- one is left
    have hleft : ∃ i, i < n ∧ listed.getD i false = false ∧ ∀ j, j < i → listed.getD j false = true := by
      have hex : ∃ i, i < n ∧ listed.getD i false = false := by
        refine Classical.byContradiction fun hno => ?_
        have : cntT listed n = n := by
          unfold cntT
          have : (List.range n).countP (fun k => listed.getD k false) = (List.range n).length := List.countP_eq_length.2 fun k hk => by
            cases hv : listed.getD k false with
            | true => rfl
            | false => exact absurd ⟨k, List.mem_range.1 hk, hv⟩ hno
          rw [this, List.length_range]
        omega
      obtain ⟨i0, h0, h1⟩ := hex
      clear h
      induction i0 using Nat.strongRecOn with
      | _ i0 ih2 =>
        by_cases hl : ∃ j, j < i0 ∧ listed.getD j false = false
        · obtain ⟨j, hj, hf⟩ := hl
          exact ih2 j hj (by omega) hf
        · exact ⟨i0, h0, h1, fun j hj => by
            cases hv : listed.getD j false with
            | true => rfl
            | false => exact absurd ⟨j, hj, hv⟩ hl⟩
    have hgt : ∀ k, k < ops.length → listed.getD k true = listed.getD k false := fun k hk => by
      have := h.lsize
      simp [Array.getD_eq_getD_getElem?, show k < listed.size by omega]
    refine ⟨fun hr => ?_, fun i hi => ?_⟩
    · obtain ⟨i, hin, hf, hj⟩ := hleft
      have : i ∈ Region.ready .any ops.toArray listed := ready_mem.2 ⟨by omega, by rw [hgt i (by omega)]; exact hf, fun j hj' => hj j ((nd i (by omega)).1 j hj')⟩
      rw [hr] at this
      cases this
    · obtain ⟨hil, hif, hia⟩ := ready_mem.1 hi
      rw [hgt i hil] at hif
      have hin : i < n := by
        refine Classical.byContradiction fun hge => ?_
        obtain ⟨j, hjn, hjf, _⟩ := hleft
        have hjt : listed.getD j false = true := by
          rcases tl i (by omega) hil j hjn with h1 | h1
          · exact hia j h1
          · rcases (nd i hil).2 j h1 with h2 | ⟨m', h2, h3⟩
            · exact hia j h2
            · have hm' : m' < n := Classical.byContradiction fun hge2 => by
                have := hia m' h2
                rw [h.out m' (by omega)] at this
                cases this
              exact (h.clos m' hm' (hia m' h2) j h3).2
        rw [hjt] at hjf
        cases hjf
      have ho : ops[i]? = some ops[i] := List.getElem?_eq_getElem hil
      have hdi : ds[i]? = some ops[i].dst := by rw [← hds, List.getElem?_map, ho]; rfl
      have hdt : ∀ k, k < n → (ds.take n)[k]? = ds[k]? := fun k hk => by rw [List.getElem?_take, if_pos hk]
      have hsl : ∀ (b : Act) k, k < n → slotAt (ds.take n) b k = slotAt ds b k := fun b k hk => by unfold slotAt; rw [hdt k hk]
      have hneedi : ∀ j ∈ need.getD i [], j < n ∧ listed.getD j false = true := fun j hj => by
        rcases (nd i hil).2 j hj with h1 | ⟨m', h1, h2⟩
        · exact ⟨by have := (nd i hil).1 j h1; omega, hia j h1⟩
        · exact h.clos m' (by have := (nd i hil).1 m' h1; omega) (hia m' h1) j h2
      obtain ⟨hk, hs⟩ := hE i (Nat.zero_le _) hin
      have hstep := hs _ ho a w h.size h.grow (fun t ht => h.rest t fun k hk _ e => ht (some t) (List.mem_of_getElem? (by rw [hdt k hk]; exact e)) rfl) (fun j hj => by
        rw [hsl a j (hneedi j hj).1]
        exact h.facts j (hneedi j hj).1 (hneedi j hj).2)
      have next : ∀ v w', R w w' → (Gs.getD i (fun _ _ => True)) (if ops[i].dst.isSome then v else undef) w' → wpAny P .any ops.toArray Q (m + (ops.length - n)) (listed.setIfInBounds i true) (a.put ops[i].dst v) w' := by
        intro v w' hR hG
        have hls : i < listed.size := by rw [h.lsize]; omega
        refine ih _ _ _ ⟨by rw [put_defers]; exact h.defers, by rw [put_size]; exact h.size, by rw [Array.size_setIfInBounds]; exact h.lsize, fun k hk => ?_, hT _ _ _ h.grow hR, fun t ht => ?_, fun k hk hkl => ?_, fun k hk hkl j hj => ?_⟩ ?_
        · rw [getD_set_ne _ (by omega)]; exact h.out k hk
        · have hne : ops[i].dst ≠ some t := fun e => ht i hin (getD_set_eq _ hls) (by rw [hdi, e])
          rw [put_get _ _ _ _ hne]
          refine h.rest t fun k hk hkl => ht k hk ?_
          by_cases hki : k = i
          · subst hki; exact getD_set_eq _ hls
          · rw [getD_set_ne _ hki]; exact hkl
        · by_cases hki : k = i
          · subst hki
            have : slotAt ds (a.put ops[k].dst v) k = if ops[k].dst.isSome then v else undef := by
              unfold slotAt
              rw [hdi]
              simp only [Option.getD_some]
              cases hd : ops[k].dst with
              | none => rfl
              | some t =>
                simp only [Option.isSome_some, if_true]
                refine put_at _ _ _ ?_
                rw [h.size]
                exact apart_lt _ _ k t hap (by rw [hdt k hin, hdi, hd])
            rw [this]
            exact hG
          · rw [getD_set_ne _ hki] at hkl
            have : slotAt ds (a.put ops[i].dst v) k = slotAt ds a k := by
              unfold slotAt
              cases hd : (ds[k]?).getD none with
              | none => rfl
              | some t =>
                refine put_get _ _ _ _ fun e => hki ?_
                have hk2 : ds[k]? = some (some t) := by
                  cases hq : ds[k]? with
                  | none => rw [hq] at hd; cases hd
                  | some x => rw [hq] at hd; simp at hd; rw [hd]
                exact apart_ne _ _ k i t hap (by rw [hdt k hk]; exact hk2) (by rw [hdt i hin, hdi, e])
            rw [this]
            exact (hE k (Nat.zero_le _) hk).1 _ _ _ hR (h.facts k hk hkl)
        · have hj2 : j < n ∧ listed.getD j false = true := by
            by_cases hki : k = i
            · subst hki; exact hneedi j hj
            · rw [getD_set_ne _ hki] at hkl; exact h.clos k hk hkl j hj
          refine ⟨hj2.1, ?_⟩
          by_cases hji : j = i
          · rw [hji]; exact getD_set_eq _ hls
          · rw [getD_set_ne _ hji]; exact hj2.2
        · rw [cntT_set _ _ hls hif, if_pos hin]; omega
      unfold wpOp
      simp only [List.getElem?_toArray, ho]
      rcases hstep with ⟨hw, hwp⟩ | ⟨hw, hg⟩
      · rw [if_pos hw]
        refine .inl (Oper.wp_mono ?_ hwp)
        rintro a' w' ⟨v, rfl, hR, hG⟩
        exact next v w' hR hG
      · rw [if_neg (by rw [hw]; simp)]
        exact next undef w (hRr w) (by split <;> exact hg)
/-- One more has come up. -/
theorem Inv.step {n : Nat} {ds : List (Option Tmp)} {need : List (List Nat)} {a0 : Act} {w0 : World} {R : World → World → Prop} {Gs : List (Value → World → Prop)} {listed : Array Bool} {a : Act} {w w' : World} {i : Nat} {d : Option Tmp} {v : Value}
    (h : Inv n ds need a0 w0 R Gs listed a w) (hn : n ≤ ds.length) (hap : apartB (ds.take n) a0.tmps.size = true) (hT : ∀ x y z, R x y → R y z → R x z) (hK : ∀ k, k < n → Keeps R (Gs.getD k (fun _ _ => True)))
    (hin : i < n) (hdi : ds[i]? = some d) (hneedi : ∀ j ∈ need.getD i [], j < n ∧ listed.getD j false = true) (hR : R w w') (hG : (Gs.getD i (fun _ _ => True)) (if d.isSome then v else undef) w') :
    Inv n ds need a0 w0 R Gs (listed.setIfInBounds i true) (a.put d v) w' := by
  have hls : i < listed.size := by rw [h.lsize]; omega
  have hdt : ∀ k, k < n → (ds.take n)[k]? = ds[k]? := fun k hk => by rw [List.getElem?_take, if_pos hk]
  refine ⟨by rw [put_defers]; exact h.defers, by rw [put_size]; exact h.size, by rw [Array.size_setIfInBounds]; exact h.lsize, fun k hk => ?_, hT _ _ _ h.grow hR, fun t ht => ?_, fun k hk hkl => ?_, fun k hk hkl j hj => ?_⟩
  · rw [getD_set_ne _ (by omega)]; exact h.out k hk
  · have hne : d ≠ some t := fun e => ht i hin (getD_set_eq _ hls) (by rw [hdi, e])
    rw [put_get _ _ _ _ hne]
    refine h.rest t fun k hk hkl => ht k hk ?_
    by_cases hki : k = i
    · subst hki; exact getD_set_eq _ hls
    · rw [getD_set_ne _ hki]; exact hkl
  · by_cases hki : k = i
    · subst hki
      have : slotAt ds (a.put d v) k = if d.isSome then v else undef := by
        unfold slotAt
        rw [hdi]
        simp only [Option.getD_some]
        cases hd : d with
        | none => rfl
        | some t =>
          simp only [Option.isSome_some, if_true]
          refine put_at _ _ _ ?_
          rw [h.size]
          exact apart_lt _ _ k t hap (by rw [hdt k hin, hdi, hd])
      rw [this]
      exact hG
    · rw [getD_set_ne _ hki] at hkl
      have : slotAt ds (a.put d v) k = slotAt ds a k := by
        unfold slotAt
        cases hd : (ds[k]?).getD none with
        | none => rfl
        | some t =>
          refine put_get _ _ _ _ fun e => hki ?_
          have hk2 : ds[k]? = some (some t) := by
            cases hq : ds[k]? with
            | none => rw [hq] at hd; cases hd
            | some x => rw [hq] at hd; simp at hd; rw [hd]
          exact apart_ne _ _ k i t hap (by rw [hdt k hk]; exact hk2) (by rw [hdt i hin, hdi, e])
      rw [this]
      exact hK k hk _ _ _ hR (h.facts k hk hkl)
  · have hj2 : j < n ∧ listed.getD j false = true := by
      by_cases hki : k = i
      · subst hki; exact hneedi j hj
      · rw [getD_set_ne _ hki] at hkl; exact h.clos k hk hkl j hj
    refine ⟨hj2.1, ?_⟩
    by_cases hji : j = i
    · rw [hji]; exact getD_set_eq _ hls
    · rw [getD_set_ne _ hji]; exact hj2.2
theorem tailL_at (n m k : Nat) : (tailL n m).getD k false = decide (k < n) := by
  unfold tailL
  simp only [Array.getD_eq_getD_getElem?, List.getElem?_toArray, List.getElem?_append, List.length_replicate, List.getElem?_replicate]
  by_cases h : k < n
  · simp [h]
  · rw [if_neg h]
    split <;> simp [h]
theorem tailL_size (n m : Nat) (h : n ≤ m) : (tailL n m).size = m := by simp [tailL]; omega
theorem tailL_set (n m : Nat) (h : n < m) : (tailL n m).setIfInBounds n true = tailL (n + 1) m := by
  have hs := tailL_size n m (by omega)
  have hs' := tailL_size (n + 1) m (by omega)
  refine Array.ext (by rw [Array.size_setIfInBounds, hs, hs']) fun i h1 h2 => ?_
  have e1 : ((tailL n m).setIfInBounds n true)[i] = ((tailL n m).setIfInBounds n true).getD i false := by rw [Array.getD_eq_getD_getElem?, Array.getElem?_eq_getElem h1]; rfl
  have e2 : (tailL (n + 1) m)[i] = (tailL (n + 1) m).getD i false := by rw [Array.getD_eq_getD_getElem?, Array.getElem?_eq_getElem h2]; rfl
  rw [e1, e2, tailL_at]
  by_cases hi : i = n
  · subst hi
    rw [getD_set_eq _ (by omega)]; simp
  · rw [getD_set_ne _ hi, tailL_at]
    simp only [decide_eq_decide]
    omega
/-- Each waits for earlier ones alone: in a region that draws nothing they come up afs they stand. -/
def seqB (need : List (List Nat)) (n : Nat) : Bool := (List.range n).all fun i => (need.getD i []).all (fun j => decide (j < i))
theorem wpList_inv {ds : List (Option Tmp)} {need : List (List Nat)} {a0 : Act} {w0 : World} {R : World → World → Prop} {Gs : List (Value → World → Prop)} {Q : Exit → Act → World → Prop}
    (hds : ops.map (·.dst) = ds) (hap : apartB ds a0.tmps.size = true) (hneed : seqB need ops.length = true) (hRr : ∀ x, R x x) (hT : ∀ x y z, R x y → R y z → R x z) (hE : Each P ops ds need a0 w0 R Gs Q ops.length 0)
    (hend : ∀ (v : Nat → Value) w, R w0 w → (∀ k, k < ops.length → (Gs.getD k (fun _ _ => True)) (match (ds[k]?).getD none with | some _ => v k | none => undef) w) → Q .normal (puts ds v 0 a0) w) :
    ∀ (rest pre : List Oper) (a : Act) (w : World), ops = pre ++ rest → Inv ops.length ds need a0 w0 R Gs (tailL pre.length ops.length) a w → wpList P ops.toArray Q rest a w
  | [], pre, a, w, e, h => by
    have hdl : ds.length = ops.length := by rw [← hds, List.length_map]
    have ht : ds.take ops.length = ds := by rw [← hdl, List.take_length]
    have hpl : pre.length = ops.length := by rw [e]; simp
    obtain ⟨_, v, rfl, hg⟩ := inv_end (by rw [ht]; exact hap) (by omega) h (fun k hk => by rw [tailL_at]; simp; omega)
    rw [ht]
    exact hend v w h.grow hg
  | o :: rest, pre, a, w, e, h => by
    have hdl : ds.length = ops.length := by rw [← hds, List.length_map]
    have ht : ds.take ops.length = ds := by rw [← hdl, List.take_length]
    have hil : pre.length < ops.length := by rw [e]; simp
    have ho : ops[pre.length]? = some o := by rw [e]; simp
    have hdi : ds[pre.length]? = some o.dst := by rw [← hds, List.getElem?_map, ho]; rfl
    have hneedi : ∀ j ∈ need.getD pre.length [], j < ops.length ∧ (tailL pre.length ops.length).getD j false = true := fun j hj => by
      have h1 := List.all_eq_true.1 hneed pre.length (List.mem_range.2 hil)
      have h2 := List.all_eq_true.1 h1 j hj
      simp only [decide_eq_true_eq] at h2
      exact ⟨by omega, by rw [tailL_at]; simpa using h2⟩
    obtain ⟨hk, hs⟩ := hE pre.length (Nat.zero_le _) hil
    have hstep := hs o ho a w h.size h.grow (fun t htt => h.rest t fun k hk _ e => htt (some t) (List.mem_of_getElem? e) rfl) (fun j hj => h.facts j (hneedi j hj).1 (hneedi j hj).2)
    have next : ∀ v w', R w w' → (Gs.getD pre.length (fun _ _ => True)) (if o.dst.isSome then v else undef) w' → wpList P ops.toArray Q rest (a.put o.dst v) w' := fun v w' hR hG => by
      have hinv := h.step (by omega) (by rw [ht]; exact hap) hT (fun k hk => (hE k (Nat.zero_le _) hk).1) hil hdi hneedi hR hG
      rw [tailL_set _ _ hil] at hinv
      refine wpList_inv hds hap hneed hRr hT hE hend rest (pre ++ [o]) _ _ (by rw [e]; simp) ?_
      rw [List.length_append, List.length_singleton]
      exact hinv
    unfold wpList
    rcases hstep with ⟨hw, hwp⟩ | ⟨hw, hg⟩
    · rw [if_pos hw]
      exact .inl (Oper.wp_mono (fun a' w' ⟨v, e, hR, hG⟩ => by subst e; exact next v w' hR hG) hwp)
    · rw [if_neg (by rw [hw]; simp)]
      exact next undef w (hRr w) (by split <;> exact hg)
/-- THE LAW, of a region that draws nothing. -/
theorem wp_region_seq {id : Nat} {ds : List (Option Tmp)} {need : List (List Nat)} {a0 : Act} {w : World} {R : World → World → Prop} {Gs : List (Value → World → Prop)} {Q : Exit → Act → World → Prop}
    (hds : ops.map (·.dst) = ds) (hap : apartB ds a0.tmps.size = true) (hneed : seqB need ops.length = true) (hRr : ∀ x, R x x) (hT : ∀ x y z, R x y → R y z → R x z) (hE : Each P ops ds need a0 w R Gs Q ops.length 0)
    (hend : ∀ (v : Nat → Value) w', R w w' → (∀ k, k < ops.length → (Gs.getD k (fun _ _ => True)) (match (ds[k]?).getD none with | some _ => v k | none => undef) w') → Q .normal (puts ds v 0 a0) w') :
    (Code.region id ops.toArray false).wp P Q a0 w := by
  refine wp_region_lit (wpList_inv hds hap hneed hRr hT hE hend ops [] a0 w rfl ?_)
  have hdl : ds.length = ops.length := by rw [← hds, List.length_map]
  have hz : ∀ k, (tailL 0 ops.length).getD k false = false := fun k => by rw [tailL_at]; simp
  exact ⟨rfl, rfl, (tailL_size _ _ (Nat.zero_le _)).trans hdl.symm, fun k _ => hz k, hRr _, fun _ _ => rfl, fun k _ hk => (by have := (hz k).symm.trans hk; cases this), fun k _ hk => (by have := (hz k).symm.trans hk; cases this)⟩
/-- THE LAW. -/
theorem wp_region_inv {id : Nat} {n : Nat} {ds : List (Option Tmp)} {need : List (List Nat)} {a0 : Act} {w : World} {R : World → World → Prop} {Gs : List (Value → World → Prop)} {Q : Exit → Act → World → Prop}
    (hm : P.follows .mixedOrders = true) (hds : ops.map (·.dst) = ds) (hn : n ≤ ops.length) (hap : apartB (ds.take n) a0.tmps.size = true) (hneed : needB (afterL ops) need = true) (htail : tailB (afterL ops) need n = true)
    (hRr : ∀ x, R x x) (hT : ∀ x y z, R x y → R y z → R x z) (hE : Each P ops (ds.take n) need a0 w.drew R Gs Q n 0)
    (hend : ∀ (v : Nat → Value) w', R w.drew w' → (∀ k, k < n → (Gs.getD k (fun _ _ => True)) (match (ds[k]?).getD none with | some _ => v k | none => undef) w') → wpAny P .any ops.toArray Q (ops.length - n) (tailL n ops.length) (puts (ds.take n) v 0 a0) w') :
    (Code.region id ops.toArray true).wp P Q a0 w := by
  refine wp_region_any hm ?_
  have hdl : ds.length = ops.length := by rw [← hds, List.length_map]
  have hz : ∀ k, (Array.replicate ops.length false).getD k false = false := fun k => by
    simp only [Array.getD_eq_getD_getElem?, Array.getElem?_replicate]
    split <;> rfl
  have h := wpAny_inv (P := P) hds hn hap hneed htail hRr hT hE hend n (Array.replicate ops.length false) a0 w.drew
    ⟨rfl, rfl, by rw [Array.size_replicate, hdl], fun k _ => hz k, hRr _, fun _ _ => rfl, fun k _ hk => (by rw [hz] at hk; cases hk), fun k _ hk => (by rw [hz] at hk; cases hk)⟩
    (by
      have : cntT (Array.replicate ops.length false) n = 0 := by
        unfold cntT
        exact List.countP_eq_zero.2 fun k _ => by rw [hz]; simp
      omega)
  rw [show n + (ops.length - n) = ops.length by omega] at h
  exact h
end
section
open Go.RowKit

theorem eval_const (a : Act) (v : Value) : a.eval (.const v) = v := rfl
abbrev Bel : World → World → Prop := fun x y => Below x.heap.size x y
variable {P : Program} {ops : List Oper} {ds : List (Option Tmp)} {need : List (List Nat)} {a0 : Act} {w0 : World} {R : World → World → Prop} {Gs : List (Value → World → Prop)} {Q : Exit → Act → World → Prop}
theorem StepOk.plain {i : Nat} {o : Oper} {g : Value → World → Prop} (hg : Gs.getD i (fun _ _ => True) = g) (hgd : o.guard = none) (hd : o.dst.isSome = true)
    (h : ∀ a w, a.tmps.size = a0.tmps.size → R w0 w → (∀ t, (∀ d ∈ ds, d ≠ some t) → a.tmps.getD t undef = a0.tmps.getD t undef) → (∀ j ∈ need.getD i [], (Gs.getD j (fun _ _ => True)) (slotAt ds a j) w) →
      o.wp P a w (fun a' w' => ∃ v, a' = a.put o.dst v ∧ R w w' ∧ g v w') Q) : StepOk P ops ds need a0 w0 R Gs Q i o := by
  intro a w h1 h2 h3 h4
  refine .inl ⟨by unfold Region.wanted; rw [hgd], Oper.wp_mono (fun a' w' ⟨v, e, r, hv⟩ => ⟨v, e, r, ?_⟩) (h a w h1 h2 h3 h4)⟩
  rw [hg, if_pos hd]
  exact hv
theorem StepOk.guarded {i : Nat} {o : Oper} {g : Value → World → Prop} (j : Nat) (t : Tmp) (b : Bool) (hgd : o.guard = some (j, b)) (hdt : (ops.map (·.dst))[j]? = some (some t)) (hg : Gs.getD i (fun _ _ => True) = g) (hd : o.dst.isSome = true)
    (h : ∀ a w, a.tmps.size = a0.tmps.size → R w0 w → (∀ t, (∀ d ∈ ds, d ≠ some t) → a.tmps.getD t undef = a0.tmps.getD t undef) → (∀ j ∈ need.getD i [], (Gs.getD j (fun _ _ => True)) (slotAt ds a j) w) →
      a.tmps.getD t undef = .bool b ∧ o.wp P a w (fun a' w' => ∃ v, a' = a.put o.dst v ∧ R w w' ∧ g v w') Q) : StepOk P ops ds need a0 w0 R Gs Q i o := by
  intro a w h1 h2 h3 h4
  obtain ⟨hb, hw⟩ := h a w h1 h2 h3 h4
  refine .inl ⟨?_, Oper.wp_mono (fun a' w' ⟨v, e, r, hv⟩ => ⟨v, e, r, ?_⟩) hw⟩
  · have e1 : a.tmps[t]? = some (.bool b) := by
      rw [Array.getD_eq_getD_getElem?] at hb
      cases hx : a.tmps[t]? with
      | none => rw [hx] at hb; cases hb
      | some x => rw [hx] at hb; simp at hb; rw [hb]
    have e2 : ((ops.toArray[j]?).bind (·.dst)) = some t := by
      rw [List.getElem?_map] at hdt
      rw [List.getElem?_toArray]
      cases hx : ops[j]? with
      | none => rw [hx] at hdt; cases hdt
      | some x => rw [hx] at hdt; simp at hdt; simp [hdt]
    unfold Region.wanted
    rw [hgd]
    simp only [yielded, e2, Option.bind_some, e1, beq_self_eq_true]
  · rw [hg, if_pos hd]
    exact hv
theorem Keeps.const (c : Value) : Keeps Bel (fun v _ => v = c) := fun _ _ _ _ h => h
theorem wp_pure {o : Oper} {a : Act} {w : World} {v : Value} {g : Value → World → Prop} (hrun : (execOp a.eval o).run P w = .ok (.value v) w) (hv : g v w) :
    o.wp P a w (fun a' w' => ∃ v, a' = a.put o.dst v ∧ Bel w w' ∧ g v w') Q := by
  unfold Oper.wp; rw [hrun]; exact ⟨v, rfl, Below.refl _ _, hv⟩
theorem wp_made {o : Oper} {a : Act} {w : World} {v : Value} {ob : Obj} {g : Value → World → Prop} (hrun : (execOp a.eval o).run P w = .ok (.value v) (w.alloc ob)) (hv : g v (w.alloc ob)) :
    o.wp P a w (fun a' w' => ∃ v, a' = a.put o.dst v ∧ Bel w w' ∧ g v w') Q := by
  unfold Oper.wp; rw [hrun]; exact ⟨v, rfl, ba w ob, hv⟩
theorem wp_fn {o : Oper} {a : Act} {w : World} {f : FuncId} {fn : Func} {args : Array Operand} {ats : Array TypeId} {vs : Array Value} {g : Value → World → Prop} (hop : o.op = .call { callee := .value (.func f), args, argTypes := ats })
    (hf : P.funcs[f]? = some fn) (hname : (fn.name == "runtime.NumGoroutine") = false) (hb : fn.body.isNone = false) (he : args.map a.eval = vs) (hC : Calls P f vs w (fun e w' => ∃ v, e = .returned v ∧ Bel w w' ∧ g v w')) :
    o.wp P a w (fun a' w' => ∃ v, a' = a.put o.dst v ∧ Bel w w' ∧ g v w') Q := by
  unfold Oper.wp
  rw [Conc.run_call_body hop hf hname hb, he]
  refine Calls.mono hC ?_
  rintro e w' ⟨v, rfl, hB, hg⟩
  exact ⟨v, rfl, hB, hg⟩
theorem wpOp_go {opa : Array Oper} {i : Nat} {o : Oper} {a : Act} {w : World} {K : Act → World → Prop} (ho : opa[i]? = some o) (hgd : o.guard = none) (h : o.wp P a w K Q) : wpOp P opa Q i K a w := by
  unfold wpOp
  simp only [ho]
  rw [if_pos (by unfold Region.wanted; rw [hgd])]
  exact .inl h
/-- The next one, where one alone may come up. -/
theorem wpAny_next {i fuel : Nat} {o : Oper} {L : Array Bool} {a : Act} {w : World} (hr : Region.ready .any ops.toArray L = [i]) (ho : ops[i]? = some o) (hgd : o.guard = none)
    (h : o.wp P a w (fun a' w' => wpAny P .any ops.toArray Q fuel (L.setIfInBounds i true) a' w') Q) : wpAny P .any ops.toArray Q (fuel + 1) L a w := by
  refine wpAny_all hr (by simp) (fun j hj => ?_)
  obtain rfl : j = i := by simpa using hj
  exact wpOp_go (by simpa using ho) hgd h
/-- The last operation, behind all the others. -/
theorem wpAny_last {n : Nat} {o : Oper} {a : Act} {w : World} (hlen : ops.length - n = 1) (hr : Region.ready .any ops.toArray (tailL n ops.length) = [n]) (hr2 : Region.ready .any ops.toArray ((tailL n ops.length).setIfInBounds n true) = [])
    (ho : ops[n]? = some o) (hgd : o.guard = none) (h : o.wp P a w (fun a' w' => Q .normal a' w') Q) : wpAny P .any ops.toArray Q (ops.length - n) (tailL n ops.length) a w := by
  rw [hlen]
  refine wpAny_all (fuel := 0) hr (by simp) (fun i hi => ?_)
  obtain rfl : i = n := by simpa using hi
  refine wpOp_go (by simpa using ho) hgd (Oper.wp_mono (fun a' w' hq => ?_) h)
  exact wpAny_done hr2 hq _
section
variable {o : Oper} {a : Act} {w : World}
theorem run_move {x : Operand} (ho : o.op = .move x) : (execOp a.eval o).run P w = .ok (.value (a.eval x)) w := by unfold execOp; simp [ho]
theorem run_assign {x : Operand} (ho : o.op = .assign x) : (execOp a.eval o).run P w = .ok (.value (a.eval x)) w := by unfold execOp; simp [ho]
theorem run_pick {c x y : Operand} (ho : o.op = .pick c x y) (b : Bool) (hc : a.eval c = .bool b) : (execOp a.eval o).run P w = .ok (.value (if b then a.eval x else a.eval y)) w := by
  unfold execOp
  simp [ho, hc, asBool]
theorem run_len {x : Operand} {t e : TypeId} (ho : o.op = .call { callee := .builtin .len, args := #[x], argTypes := #[t] }) (hu : P.underlying t = some (.slice e)) {A : Option Addr} {n c : Nat} (hx : a.eval x = .slice A n c) : (execOp a.eval o).run P w = .ok (.value (.int .i64 n)) w := by
  unfold execOp
  simp [ho, hx, resolve, invoke, builtin, Builtin.len_, run_underlying hu, goInt]
theorem run_eqI {x y : Operand} {t t' : TypeId} (ho : o.op = .binOp .eql t x y t') {k : IntKind} {m n : Int} (hx : a.eval x = .int k m) (hy : a.eval y = .int k n) : (execOp a.eval o).run P w = .ok (.value (.bool (m == n))) w := by
  unfold execOp
  simp [ho, hx, hy, eqGuard, binOp, Op.intCmp]
theorem run_lss {x y : Operand} {t t' : TypeId} (ho : o.op = .binOp .lss t x y t') {k : IntKind} {m n : Int} (hx : a.eval x = .int k m) (hy : a.eval y = .int k n) : (execOp a.eval o).run P w = .ok (.value (.bool (decide (m < n)))) w := by
  unfold execOp
  simp [ho, hx, hy, eqGuard, binOp, Op.intCmp]
theorem run_eqS {x y : Operand} {t t' : TypeId} (ho : o.op = .binOp .eql t x y t') {m n : ByteArray} (hx : a.eval x = .string m) (hy : a.eval y = .string n) : (execOp a.eval o).run P w = .ok (.value (.bool (m.toList == n.toList))) w := by
  unfold execOp
  simp [ho, hx, hy, eqGuard, binOp, Op.stringOp]
theorem run_not {x : Operand} {t : TypeId} (ho : o.op = .unOp .not t x) {b : Bool} (hx : a.eval x = .bool b) : (execOp a.eval o).run P w = .ok (.value (.bool (!b))) w := by
  unfold execOp
  simp [ho, hx, Op.unary]
end
end
end Go.Proofs.YtofhaokaldpmaaaGreatDoor
end
section
namespace Go.Proofs.YtofhaokaldpmaaaGreatDoor
open Go.RowKit Go.Shelf
attribute [local go_sem] Oper.semAt_some

/-- A column, by its parts. -/
structure Co where
  tab : ByteArray
  nm : ByteArray
  ty : Int
abbrev coV (c : Co) : Value := .agg #[.string c.tab, .string c.nm, .int .i64 c.ty]
def CoAt (w : World) (A : Option Addr) (l : List Co) : Prop :=
  l = [] ∨ ∃ b off : Nat, A = some ⟨b, off, none⟩ ∧ b < w.heap.size ∧ ∀ (i : Nat) (v : Co), l[i]? = some v →
    w.cell? ⟨b, off + i * 3, none⟩ = some (.string v.tab) ∧ w.cell? ⟨b, off + i * 3 + 1, none⟩ = some (.string v.nm) ∧ w.cell? ⟨b, off + i * 3 + 2, none⟩ = some (.int .i64 v.ty)
theorem CoAt.kept {w w' : World} {A : Option Addr} {l : List Co} (h : CoAt w A l) (hb : Below w.heap.size w w') : CoAt w' A l := by
  rcases h with h | ⟨b, off, hA, hlt, hc⟩
  · exact .inl h
  · refine .inr ⟨b, off, hA, Nat.lt_of_lt_of_le hlt hb.size, fun i v hv => ?_⟩
    obtain ⟨c0, c1, c2⟩ := hc i v hv
    exact ⟨(hb.cell (p := ⟨b, _, none⟩) hlt).trans c0, (hb.cell (p := ⟨b, _, none⟩) hlt).trans c1, (hb.cell (p := ⟨b, _, none⟩) hlt).trans c2⟩
theorem CoAt.at {w : World} {A : Option Addr} {l : List Co} (h : CoAt w A l) {i : Nat} (hi : i < l.length) :
    ∃ b off : Nat, A = some ⟨b, off, none⟩ ∧ b < w.heap.size ∧ w.cell? ⟨b, off + i * 3, none⟩ = some (.string l[i].tab) ∧ w.cell? ⟨b, off + i * 3 + 1, none⟩ = some (.string l[i].nm) ∧ w.cell? ⟨b, off + i * 3 + 2, none⟩ = some (.int .i64 l[i].ty) := by
  rcases h with h | ⟨b, off, hA, hlt, hc⟩
  · subst h; simp at hi
  · obtain ⟨c0, c1, c2⟩ := hc i l[i] (List.getElem?_eq_getElem hi)
    exact ⟨b, off, hA, hlt, c0, c1, c2⟩
theorem CoAt.drop {w : World} {b off : Nat} {l : List Co} (h : CoAt w (some ⟨b, off, none⟩) l) (k : Nat) : CoAt w (some ⟨b, off + k * 3, none⟩) (l.drop k) := by
  rcases h with h | ⟨b', off', hA, hlt, hc⟩
  · subst h; exact .inl (by simp)
  · simp only [Option.some.injEq, Addr.mk.injEq] at hA
    obtain ⟨rfl, rfl, _⟩ := hA
    refine .inr ⟨b, off + k * 3, rfl, hlt, fun i v hv => ?_⟩
    rw [List.getElem?_drop] at hv
    have := hc (k + i) v hv
    rw [show off + (k + i) * 3 = off + k * 3 + i * 3 by omega] at this
    exact this
/-- Is a column meant by a name? -/
def meantB (tab col : ByteArray) (c : Co) : Bool := (c.nm.toList == col.toList) && (tab.toList.isEmpty || (c.tab.toList == tab.toList))
/-- The place of a name: none, if it stands for nothing or for several columns. -/
def findX (tab col : ByteArray) (l : List Co) : Option Nat := match l.findIdx? (meantB tab col) with
  | some i => if i < 32 ∧ (l.drop (i + 1)).any (meantB tab col) = false then some i else none
  | none => none
abbrev errV (n : Int) : Value := .iface 68 (.agg #[.int .i64 n])
def fnV (o : Option Nat) : Value := match o with
  | some i => .tuple #[.int .i64 (i : Nat), .nilIface]
  | none => .tuple #[.int .i64 0, errV 140]
theorem number_nil (w : World) : Calls Tryz.prog 27 #[.nilIface] w fun e w' => e = .returned (.int .i64 0) ∧ Below w.heap.size w w' := by
  have hb := ba w (.cells #[.int .i64 0] 68)
  go_enter Tryz.func27, Tryz.ntmps27
  go_wp2_with fail
  refine (as_nil _ _).mono ?_
  rintro e w1 ⟨rfl, rfl⟩
  go_wp2_with fail
  go_ret
  exact ⟨rfl, hb⟩
theorem number_err (n : Int) (w : World) (hE : ErrT w) : Calls Tryz.prog 27 #[errV n] w fun e w' => e = .returned (.int .i64 n) ∧ Below w.heap.size w w' := by
  have hb := ba w (.cells #[.int .i64 0] 68)
  have HA := Lib.hid (as_hit w.heap.size n (.int .i64 0) (w.alloc (.cells #[.int .i64 0] 68)) (hE.kept hb) (by simp) (by simp))
  have HB := Lib.hid hb
  clear hb hE
  go_enter Tryz.func27, Tryz.ntmps27
  go_wp2_with fail
  refine HA.out.mono ?_
  rintro e w1 ⟨rfl, hb1, hc⟩
  have HB1 := Lib.hid (HB.out.trans hb1)
  clear hb1
  go_wp2_with fail
  go_ret
  exact ⟨rfl, HB1.out⟩
set_option maxHeartbeats 2000000 in
theorem meant_any (c : Co) (tab col : ByteArray) (q5 q4 : Nat) (w : World) (h5 : w.cell? ⟨q5, 0, none⟩ = some (.string col)) (h4 : w.cell? ⟨q4, 0, none⟩ = some (.string tab)) {b : Bool} (h : meantB tab col c = b) :
    Calls Tryz.prog 43 #[coV c, .pointer (some ⟨q5, 0, none⟩), .pointer (some ⟨q4, 0, none⟩)] w fun e w' => e = .returned (.bool b) ∧ Below w.heap.size w w' := by
  subst h
  have hb := ba w (.cells #[.string c.tab, .string c.nm, .int .i64 c.ty] 57)
  have k5 := (hb.cell (p := ⟨q5, 0, none⟩) (by exact World.block_lt_of_cell? w _ h5)).trans h5
  have k4 := (hb.cell (p := ⟨q4, 0, none⟩) (by exact World.block_lt_of_cell? w _ h4)).trans h4
  obtain ⟨tt, nn, ty⟩ := c
  unfold meantB
  simp only
  clear h5 h4
  cases h1 : (nn.toList == col.toList)
  · go_enter Tryz.func43, Tryz.ntmps43
    go_wp2_with fail
    go_ret
    exact ⟨rfl, hb⟩
  · cases h2 : tab.toList.isEmpty
    · have h2p : ¬ tab.toList = [] := fun e => by rw [e] at h2; cases h2
      cases h3 : (tt.toList == tab.toList)
      · go_enter Tryz.func43, Tryz.ntmps43
        go_wp2_with fail
        go_ret
        exact ⟨rfl, hb⟩
      · go_enter Tryz.func43, Tryz.ntmps43
        go_wp2_with fail
        go_ret
        exact ⟨rfl, hb⟩
    · have h2p : tab.toList = [] := List.isEmpty_iff.1 h2
      go_enter Tryz.func43, Tryz.ntmps43
      go_wp2_with fail
      go_ret
      exact ⟨rfl, hb⟩
theorem isPlace_any (n : Int) (w : World) {b : Bool} (h : (decide (0 ≤ n) && decide (n < 32)) = b) : Calls Tryz.prog 37 #[.int .i64 n] w fun e w' => e = .returned (.bool b) ∧ w' = w := by
  by_cases h0 : 0 ≤ n
  · by_cases h1 : n < 32
    · obtain rfl : true = b := by rw [← h, decide_eq_true h0, decide_eq_true h1]; rfl
      clear h
      go_enter Tryz.func37, Tryz.ntmps37
      go_wp2_with fail
      go_ret
      exact ⟨rfl, rfl⟩
    · obtain rfl : false = b := by rw [← h, decide_eq_false h1, Bool.and_false]
      clear h
      go_enter Tryz.func37, Tryz.ntmps37
      go_wp2_with fail
      go_ret
      exact ⟨rfl, rfl⟩
  · obtain rfl : false = b := by rw [← h, decide_eq_false h0, Bool.false_and]
    clear h
    go_enter Tryz.func37, Tryz.ntmps37
    go_wp2_with fail
    go_ret
    exact ⟨rfl, rfl⟩
/-- The first place at which it is so, or none. -/
def IdxC (p : Co → Bool) (l : List Co) (w : World) (e : Ending) (w' : World) : Prop :=
  ∃ i : Int, e = .returned (.int .i64 i) ∧ Below w.heap.size w w' ∧ ((i = -1 ∧ l.any p = false) ∨ ∃ j : Nat, ∃ hj : j < l.length, i = j ∧ p l[j] = true ∧ (l.take j).any p = false)
theorem any_take_succC (p : Co → Bool) (l : List Co) (i : Nat) (hi : i < l.length) : (l.take (i + 1)).any p = ((l.take i).any p || p l[i]) := by
  rw [List.take_succ_eq_append_getElem hi, List.any_append]
  simp
set_option maxRecDepth 100000 in
set_option maxHeartbeats 1000000 in
theorem indexMeant_any (tab col : ByteArray) (q5 q4 : Nat) (A : Option Addr) (c : Nat) (l : List Co) (w : World) (h : CoAt w A l) (hl : l.length ≤ 9223372036854775807) (h5 : w.cell? ⟨q5, 0, none⟩ = some (.string col)) (h4 : w.cell? ⟨q4, 0, none⟩ = some (.string tab)) :
    Calls Tryz.prog 44 #[.slice A l.length c, .func (.func 43) #[] #[.pointer (some ⟨q5, 0, none⟩), .pointer (some ⟨q4, 0, none⟩)]] w (IdxC (meantB tab col) l w) := by
  have eg := enters_of Tryz.func43 (by kernel_rfl) rfl
  unfold Enters at eg
  have HK := Lib.hid (fun W (hb : Below w.heap.size w W) => And.intro ((hb.cell (p := ⟨q5, 0, none⟩) (by exact World.block_lt_of_cell? w _ h5)).trans h5) ((hb.cell (p := ⟨q4, 0, none⟩) (by exact World.block_lt_of_cell? w _ h4)).trans h4))
  clear h5 h4
  go_enter Tryz.func44, Tryz.ntmps44
  go_wp2_with fail
  go_loopw [8] (fun i wr => ∃ j : Nat, j ≤ l.length ∧ i = .int .i64 j ∧ Below w.heap.size w wr ∧ Hid ((l.take j).any (meantB tab col) = false)) (fun i _ => l.length - (intOf i).toNat)
  case atStart => exact ⟨0, Nat.zero_le _, rfl, Below.refl _ _, Lib.hid (by simp)⟩
  case round =>
    obtain ⟨j, hj, rfl, hB, HN⟩ := hrel
    have hr := h.kept hB
    have HR := Lib.hid h
    clear h
    by_cases hlt : j < l.length
    · obtain ⟨b, off, rfl, hb, c0, c1, c2⟩ := hr.at hlt
      have HS := Lib.hid (any_take_succC (meantB tab col) l j hlt)
      obtain ⟨v, hv⟩ : ∃ v, l[j] = v := ⟨_, rfl⟩
      have HV := Lib.hid hv
      rw [hv] at c0 c1 c2 HS
      have HC := Lib.hid (fun b (hb : meantB tab col v = b) => meant_any v tab col q5 q4 wr (HK.out wr hB).1 (HK.out wr hB).2 hb)
      obtain ⟨vt, vn, vy⟩ := v
      clear hr hv
      cases hbd : meantB tab col ⟨vt, vn, vy⟩
      · have HC2 := Lib.hid (HC.out false hbd)
        have HE := Lib.hid (show (l.take (j + 1)).any (meantB tab col) = false by rw [HS.out, HN.out, hbd]; rfl)
        clear hbd
        go_wp2_with fail
        refine HC2.out.mono ?_
        rintro e w1 ⟨rfl, hb1⟩
        go_wp2_with fail
        go_roundw
        case rel => exact ⟨j + 1, by omega, by go_num, bt hB hb1, HE⟩
        case measure => simp [intOf]; omega
      · have HC2 := Lib.hid (HC.out true hbd)
        have HD := Lib.hid hbd
        clear hbd
        go_wp2_with fail
        refine HC2.out.mono ?_
        rintro e w1 ⟨rfl, hb1⟩
        go_wp2_with fail
        go_ret
        exact ⟨j, rfl, bt hB hb1, .inr ⟨j, hlt, rfl, by rw [HV.out]; exact HD.out, HN.out⟩⟩
    · have HE := Lib.hid (show l.any (meantB tab col) = false by rw [← HN.out, List.take_of_length_le (by omega)])
      go_wp2_with fail
      go_ret
      exact ⟨-1, rfl, hB, .inl ⟨rfl, HE.out⟩⟩
set_option maxRecDepth 100000 in
theorem containsMeant_any (tab col : ByteArray) (q5 q4 : Nat) (A : Option Addr) (c : Nat) (l : List Co) (w : World) (h : CoAt w A l) (hl : l.length ≤ 9223372036854775807) (h5 : w.cell? ⟨q5, 0, none⟩ = some (.string col)) (h4 : w.cell? ⟨q4, 0, none⟩ = some (.string tab)) :
    Calls Tryz.prog 45 #[.slice A l.length c, .func (.func 43) #[] #[.pointer (some ⟨q5, 0, none⟩), .pointer (some ⟨q4, 0, none⟩)]] w fun e w' => e = .returned (.bool (l.any (meantB tab col))) ∧ Below w.heap.size w w' := by
  have HI := Lib.hid (indexMeant_any tab col q5 q4 A c l w h hl h5 h4)
  clear h h5 h4
  go_enter Tryz.func45, Tryz.ntmps45
  go_wp2_with fail
  refine HI.out.mono ?_
  rintro e w1 ⟨i, rfl, hb1, hi⟩
  have HB := Lib.hid hb1
  rcases hi with ⟨rfl, ha⟩ | ⟨j, hj, rfl, hp, _⟩
  · have HA := Lib.hid ha
    clear hb1 ha
    go_wp2_with fail
    go_ret
    exact ⟨ret_bool (by rw [HA.out]), HB.out⟩
  · have HA := Lib.hid (show l.any (meantB tab col) = true from List.any_eq_true.2 ⟨_, List.getElem_mem hj, hp⟩)
    clear hb1 hp
    go_wp2_with fail
    go_ret
    exact ⟨ret_bool (by rw [HA.out]), HB.out⟩
theorem findIdx_none {p : Co → Bool} {l : List Co} (h : l.any p = false) : l.findIdx? p = none := by
  rw [List.findIdx?_eq_none_iff]
  intro x hx
  simpa using List.any_eq_false.1 h x hx
theorem findIdx_at {p : Co → Bool} {l : List Co} {j : Nat} (hj : j < l.length) (hp : p l[j] = true) (ht : (l.take j).any p = false) : l.findIdx? p = some j := by
  rw [List.findIdx?_eq_some_iff_getElem]
  refine ⟨hj, hp, fun i hi => ?_⟩
  exact List.any_eq_false.1 ht (l[i]'(by omega)) (by rw [List.mem_take_iff_getElem]; exact ⟨i, by omega, rfl⟩)
set_option maxRecDepth 100000 in
set_option maxHeartbeats 4000000 in
theorem find_any (tab col : ByteArray) (A : Option Addr) (c : Nat) (l : List Co) (w : World) (h : CoAt w A l) (hlc : l.length ≤ c) (hl : c ≤ 9223372036854775807) :
    Calls Tryz.prog 26 #[.slice A l.length c, .string tab, .string col] w fun e w' => e = .returned (fnV (findX tab col l)) ∧ Below w.heap.size w w' := by
  have hb1 := ba w (.cells #[.string tab] 9)
  have hb2 := bt hb1 (ba _ (.cells #[.string col] 9))
  have H5 := Lib.hid (show ((w.alloc (.cells #[.string tab] 9)).alloc (.cells #[.string col] 9)).cell? ⟨w.heap.size + 1, 0, none⟩ = some (.string col) by simp)
  have H4 := Lib.hid (show ((w.alloc (.cells #[.string tab] 9)).alloc (.cells #[.string col] 9)).cell? ⟨w.heap.size, 0, none⟩ = some (.string tab) by simp)
  have HI := Lib.hid (indexMeant_any tab col (w.heap.size + 1) w.heap.size A c l _ (h.kept hb2) (by omega) H5.out H4.out)
  have HB := Lib.hid hb2
  have HK := Lib.hid h
  obtain ⟨F, hF⟩ : ∃ F, findX tab col l = F := ⟨_, rfl⟩
  have HF := Lib.hid hF
  rw [hF]
  clear h hb1 hb2 hF
  go_enter Tryz.func26, Tryz.ntmps26
  go_wp2_with fail
  refine HI.out.mono ?_
  rintro e w1 ⟨i, rfl, hb, hi⟩
  have hl5 := World.block_lt_of_cell? _ _ H5.out
  have hl4 := World.block_lt_of_cell? _ _ H4.out
  have H51 := Lib.hid ((hb.cell (p := ⟨w.heap.size + 1, 0, none⟩) hl5).trans H5.out)
  have H41 := Lib.hid ((hb.cell (p := ⟨w.heap.size, 0, none⟩) hl4).trans H4.out)
  have HB1 := Lib.hid (bt HB.out hb)
  clear hb hl5 hl4 HI H5 H4
  rcases hi with ⟨rfl, ha⟩ | ⟨j, hj, rfl, hp, ht⟩
  · obtain rfl : F = none := by rw [← HF.out, findX, findIdx_none ha]
    clear ha
    go_wp2_with fail
    refine (isPlace_any _ _ (b := false) (by decide)).mono ?_
    rintro e w2 ⟨rfl, rfl⟩
    go_wp2_with fail
    exact bodyPost_ret (v := .tuple #[.int .i64 0, errV 140]) (by simp [results, Tryz.results26, go_sem]) rfl ⟨rfl, HB1.out⟩
  · have hfi := findIdx_at hj hp ht
    by_cases h32 : j < 32
    · have hpl : (decide (0 ≤ (j : Int)) && decide ((j : Int) < 32)) = true := by
        rw [decide_eq_true (by omega), decide_eq_true (by omega)]; rfl
      obtain ⟨b, off, hA, _⟩ := HK.out.at hj
      subst hA
      have HC0 := Lib.hid (fun hz : l.length - (j + 1) = 0 => containsMeant_any tab col (w.heap.size + 1) w.heap.size (some ⟨b, off, none⟩) 0 (l.drop (j + 1)) w1 (.inl (List.drop_eq_nil_of_le (by omega))) (by simp; omega) H51.out H41.out)
      have HCn := Lib.hid (containsMeant_any tab col (w.heap.size + 1) w.heap.size (some ⟨b, off + (j + 1) * 3, none⟩) (c - (j + 1)) (l.drop (j + 1)) w1 ((HK.out.kept HB1.out).drop (j + 1)) (by simp; omega) H51.out H41.out)
      obtain ⟨q, hq⟩ : ∃ q, (l.drop (j + 1)).any (meantB tab col) = q := ⟨_, rfl⟩
      rw [hq, List.length_drop] at HCn HC0
      have HFq := Lib.hid (show F = if q = false then some j else none by
        rw [← HF.out, findX, hfi]
        simp only [hq, h32, true_and])
      clear hp ht hfi hq
      by_cases hcj : c = j + 1
      case' pos =>
        have hz : l.length - (j + 1) = 0 := by omega
        have HCq := HC0.out hz
        rw [hz] at HCq
        subst hcj
      case' neg => have HCq := HCn.out
      all_goals
        have HCq := Lib.hid HCq
        clear HC0 HCn
        go_wp2_with fail
        refine (isPlace_any _ _ hpl).mono ?_
        rintro e w2 ⟨rfl, rfl⟩
        go_wp2_with fail
        refine HCq.out.mono ?_
        rintro e w3 ⟨rfl, hb⟩
        have HB2 := Lib.hid (bt HB1.out hb)
        clear hb
        cases q
        · obtain rfl : F = some j := HFq.out
          go_wp2_with fail
          exact bodyPost_ret (v := .tuple #[.int .i64 (j : Nat), .nilIface]) (by simp [results, Tryz.results26, go_sem]) rfl ⟨rfl, HB2.out⟩
        · obtain rfl : F = none := HFq.out
          go_wp2_with fail
          exact bodyPost_ret (v := .tuple #[.int .i64 0, errV 140]) (by simp [results, Tryz.results26, go_sem]) rfl ⟨rfl, HB2.out⟩
    · have hpl : (decide (0 ≤ (j : Int)) && decide ((j : Int) < 32)) = false := by
        rw [decide_eq_false (p := (j : Int) < 32) (by omega), Bool.and_false]
      obtain rfl : F = none := by rw [← HF.out, findX, hfi]; simp; omega
      clear hp ht hfi
      go_wp2_with fail
      refine (isPlace_any _ _ hpl).mono ?_
      rintro e w2 ⟨rfl, rfl⟩
      go_wp2_with fail
      exact bodyPost_ret (v := .tuple #[.int .i64 0, errV 140]) (by simp [results, Tryz.results26, go_sem]) rfl ⟨rfl, HB1.out⟩
end Go.Proofs.YtofhaokaldpmaaaGreatDoor
end
section
namespace Go.Proofs.YtofhaokaldpmaaaGreatDoor
open Go.RowKit Go.Shelf
attribute [local go_sem] Oper.semAt_some

/-- What Find answers. -/
def FnV (o : Option Nat) : Value := match o with
  | some i => .tuple #[.int .i64 (i : Nat), .int .i64 0]
  | none => .tuple #[.int .i64 0, .int .i64 140]
def rfnV (o : Option Nat) : Value := match o with
  | some i => .tuple #[.int .i64 (i : Nat), .bool true]
  | none => .tuple #[.int .i64 0, .bool false]
set_option maxHeartbeats 2000000 in
theorem Find_any (tab col : ByteArray) (A : Option Addr) (c : Nat) (l : List Co) (w : World) (h : CoAt w A l) (hlc : l.length ≤ c) (hl : c ≤ 9223372036854775807) (hE : ErrT w) :
    Calls Tryz.prog 10 #[.slice A l.length c, .string tab, .string col] w fun e w' => e = .returned (FnV (findX tab col l)) ∧ Below w.heap.size w w' := by
  have HF := find_any tab col A c l w h hlc hl
  have HE := Lib.hid hE
  clear h hE
  cases hf : findX tab col l with
  | none =>
    rw [hf] at HF
    have HF := Lib.hid HF
    clear hf
    go_enter Tryz.func10, Tryz.ntmps10
    go_wp2_with fail
    refine HF.out.mono ?_
    rintro e w1 ⟨rfl, hb⟩
    have HB := Lib.hid hb
    have HN := Lib.hid (number_err 140 w1 (HE.out.kept hb))
    clear hb
    unfold fnV
    go_wp2_with fail
    refine HN.out.mono ?_
    rintro e w2 ⟨rfl, hb⟩
    have HB2 := Lib.hid (bt HB.out hb)
    clear hb
    go_wp2_with fail
    exact bodyPost_ret (v := .tuple #[.int .i64 0, .int .i64 140]) (by simp [results, Tryz.results10, go_sem]) rfl ⟨rfl, HB2.out⟩
  | some i =>
    rw [hf] at HF
    have HF := Lib.hid HF
    clear hf
    go_enter Tryz.func10, Tryz.ntmps10
    go_wp2_with fail
    refine HF.out.mono ?_
    rintro e w1 ⟨rfl, hb⟩
    have HB := Lib.hid hb
    have HN := Lib.hid (number_nil w1)
    clear hb
    unfold fnV
    go_wp2_with fail
    refine HN.out.mono ?_
    rintro e w2 ⟨rfl, hb⟩
    have HB2 := Lib.hid (bt HB.out hb)
    clear hb
    go_wp2_with fail
    exact bodyPost_ret (v := .tuple #[.int .i64 (i : Nat), .int .i64 0]) (by simp [results, Tryz.results10, go_sem]) rfl ⟨rfl, HB2.out⟩
/-- What the document's Find knows from round to round: none so far, or one, and no other. -/
def SoFar (p : Co → Bool) (l : List Co) (j : Nat) (a : Int) : Prop :=
  (a = -1 ∧ (l.take j).any p = false) ∨ ∃ i : Nat, a = i ∧ i < j ∧ l.findIdx? p = some i ∧ ∀ m x, i < m → m < j → l[m]? = some x → p x = false
theorem SoFar.no {p : Co → Bool} {l : List Co} {j : Nat} {a : Int} (h : SoFar p l j a) (hj : j < l.length) (hp : p l[j] = false) : SoFar p l (j + 1) a := by
  rcases h with ⟨ha, h⟩ | ⟨i, ha, hi, hf, h⟩
  · exact .inl ⟨ha, by rw [any_take_succC p l j hj, h, hp]; rfl⟩
  · refine .inr ⟨i, ha, by omega, hf, fun m x h1 h2 hx => ?_⟩
    by_cases hm : m = j
    · subst hm
      rw [List.getElem?_eq_getElem hj] at hx
      obtain rfl := Option.some.inj hx
      exact hp
    · exact h m x h1 (by omega) hx
theorem SoFar.yes {p : Co → Bool} {l : List Co} {j : Nat} (h : SoFar p l j (-1)) (hj : j < l.length) (hp : p l[j] = true) : SoFar p l (j + 1) (j : Nat) := by
  rcases h with ⟨_, h⟩ | ⟨i, ha, hi, hf, h⟩
  · exact .inr ⟨j, rfl, by omega, findIdx_at hj hp h, fun m x h1 h2 _ => by omega⟩
  · omega
theorem any_drop {p : Co → Bool} {l : List Co} {i m : Nat} {x : Co} (hm : i < m) (hx : l[m]? = some x) (hp : p x = true) : (l.drop (i + 1)).any p = true :=
  List.any_eq_true.2 ⟨x, List.mem_of_getElem? (i := m - (i + 1)) (by rw [List.getElem?_drop, show i + 1 + (m - (i + 1)) = m by omega]; exact hx), hp⟩
theorem SoFar.twice {tab col : ByteArray} {l : List Co} {j : Nat} {a : Int} (h : SoFar (meantB tab col) l j a) (ha : 0 ≤ a) (hj : j < l.length) (hp : meantB tab col l[j] = true) : findX tab col l = none := by
  rcases h with ⟨h1, _⟩ | ⟨i, _, hi, hf, _⟩
  · omega
  · rw [findX, hf]
    simp only
    rw [if_neg]
    rintro ⟨_, h⟩
    rw [any_drop hi (List.getElem?_eq_getElem hj) hp] at h
    cases h
theorem SoFar.end {tab col : ByteArray} {l : List Co} {a : Int} (h : SoFar (meantB tab col) l l.length a) : (a < 0 ∧ findX tab col l = none) ∨ ∃ i : Nat, a = i ∧ findX tab col l = if i < 32 then some i else none := by
  rcases h with ⟨rfl, h⟩ | ⟨i, rfl, hi, hf, h⟩
  · rw [List.take_length] at h
    exact .inl ⟨by omega, by rw [findX, findIdx_none h]⟩
  · refine .inr ⟨i, rfl, ?_⟩
    have : (l.drop (i + 1)).any (meantB tab col) = false := by
      rw [List.any_eq_false]
      intro x hx
      obtain ⟨k, hk⟩ := List.getElem?_of_mem hx
      rw [List.getElem?_drop] at hk
      have := h (i + 1 + k) x (by omega) (List.getElem?_eq_some_iff.1 hk).1 hk
      rw [this]; decide
    rw [findX, hf]
    simp only [this, and_true]
set_option maxRecDepth 100000 in
set_option maxHeartbeats 8000000 in
theorem refFind_any (tab col : ByteArray) (A : Option Addr) (c : Nat) (l : List Co) (w : World) (h : CoAt w A l) (hl : l.length ≤ 9223372036854775807) :
    Calls Tryz.prog 11 #[.slice A l.length c, .string tab, .string col] w fun e w' => e = .returned (rfnV (findX tab col l)) ∧ w' = w := by
  obtain ⟨F, hF⟩ : ∃ F, findX tab col l = F := ⟨_, rfl⟩
  have HF := Lib.hid hF
  rw [hF]
  clear hF
  have HK := Lib.hid h
  clear h
  go_enter Tryz.func11, Tryz.ntmps11
  go_wp2_with fail
  go_loop [9, 8] (fun i a => ∃ (j : Nat) (av : Int), j ≤ l.length ∧ i = .int .i64 j ∧ a = .int .i64 av ∧ Hid (SoFar (meantB tab col) l j av)) (fun i _ => l.length - (intOf i).toNat)
  case atStart => exact ⟨0, -1, Nat.zero_le _, rfl, rfl, Lib.hid (.inl ⟨rfl, by simp⟩)⟩
  case round =>
    obtain ⟨j, av, hj, rfl, rfl, HS⟩ := hrel
    by_cases hlt : j < l.length
    · obtain ⟨b, off, rfl, hb, c0, c1, c2⟩ := HK.out.at hlt
      have HY := Lib.hid (fun hp => SoFar.twice (tab := tab) (col := col) HS.out · hlt hp)
      have HN := Lib.hid (fun hp => HS.out.no hlt hp)
      have HO := Lib.hid (fun (e : av = -1) hp => SoFar.yes (e ▸ HS.out) hlt hp)
      obtain ⟨v, hv⟩ : ∃ v, l[j] = v := ⟨_, rfl⟩
      rw [hv] at c0 c1 c2 HY HN HO
      obtain ⟨tt, nn, ty⟩ := v
      simp only at c0 c1 c2
      have HA := Lib.hid (show av = -1 ∨ 0 ≤ av by
        rcases HS.out with ⟨h, _⟩ | ⟨i, h, _⟩
        · exact .inl h
        · right; omega)
      clear hv HS
      have hm : meantB tab col ⟨tt, nn, ty⟩ = ((nn.toList == col.toList) && (tab.toList.isEmpty || (tt.toList == tab.toList))) := rfl
      cases h1 : (nn.toList == col.toList)
      · have HP := Lib.hid (show meantB tab col ⟨tt, nn, ty⟩ = false by rw [hm, h1]; rfl)
        have g1 : (nn.toList != col.toList) = true := by rw [bne, h1]; rfl
        clear hm
        go_wp2_with fail
        go_roundw
        case rel => exact ⟨j + 1, av, by omega, by go_num, rfl, Lib.hid (HN.out HP.out)⟩
        case measure => simp [intOf]; omega
      · have g1 : (nn.toList != col.toList) = false := by rw [bne, h1]; rfl
        cases h2 : tab.toList.isEmpty
        · have h2p : ¬ tab.toList = [] := fun e => by rw [e] at h2; cases h2
          cases h3 : (tt.toList == tab.toList)
          · have HP := Lib.hid (show meantB tab col ⟨tt, nn, ty⟩ = false by rw [hm, h1, h2, h3]; rfl)
            have g3 : (tt.toList != tab.toList) = true := by rw [bne, h3]; rfl
            clear hm
            go_wp2_with fail
            go_roundw
            case rel => exact ⟨j + 1, av, by omega, by go_num, rfl, Lib.hid (HN.out HP.out)⟩
            case measure => simp [intOf]; omega
          · have HP := Lib.hid (show meantB tab col ⟨tt, nn, ty⟩ = true by rw [hm, h1, h2, h3]; rfl)
            have g3 : (tt.toList != tab.toList) = false := by rw [bne, h3]; rfl
            clear hm
            rcases HA.out with rfl | ha
            · go_wp2_with fail
              go_roundw
              case rel => exact ⟨j + 1, j, by omega, by go_num, rfl, Lib.hid (HO.out rfl HP.out)⟩
              case measure => simp [intOf]; omega
            · obtain rfl : F = none := HF.out.symm.trans (HY.out ha HP.out)
              go_wp2_with fail
              exact bodyPost_ret (v := .tuple #[.int .i64 0, .bool false]) (by simp [results, Tryz.results11, go_sem]) rfl ⟨rfl, rfl⟩
        · have h2p : tab.toList = [] := List.isEmpty_iff.1 h2
          have HP := Lib.hid (show meantB tab col ⟨tt, nn, ty⟩ = true by rw [hm, h1, h2]; rfl)
          clear hm
          rcases HA.out with rfl | ha
          · go_wp2_with fail
            go_roundw
            case rel => exact ⟨j + 1, j, by omega, by go_num, rfl, Lib.hid (HO.out rfl HP.out)⟩
            case measure => simp [intOf]; omega
          · obtain rfl : F = none := HF.out.symm.trans (HY.out ha HP.out)
            go_wp2_with fail
            exact bodyPost_ret (v := .tuple #[.int .i64 0, .bool false]) (by simp [results, Tryz.results11, go_sem]) rfl ⟨rfl, rfl⟩
    · obtain rfl : j = l.length := by omega
      rcases HS.out.end with ⟨ha, hf⟩ | ⟨i, rfl, hf⟩
      · obtain rfl : F = none := HF.out.symm.trans hf
        clear hf HS
        go_wp2_with fail
        exact bodyPost_ret (v := .tuple #[.int .i64 0, .bool false]) (by simp [results, Tryz.results11, go_sem]) rfl ⟨rfl, rfl⟩
      · by_cases h32 : i < 32
        · obtain rfl : F = some i := by rw [← HF.out, hf, if_pos h32]
          clear hf HS
          go_wp2_with fail
          exact bodyPost_ret (v := .tuple #[.int .i64 (i : Nat), .bool true]) (by simp [results, Tryz.results11, go_sem]) rfl ⟨rfl, rfl⟩
        · obtain rfl : F = none := by rw [← HF.out, hf, if_neg h32]
          clear hf HS
          go_wp2_with fail
          exact bodyPost_ret (v := .tuple #[.int .i64 0, .bool false]) (by simp [results, Tryz.results11, go_sem]) rfl ⟨rfl, rfl⟩
end Go.Proofs.YtofhaokaldpmaaaGreatDoor
end
section
namespace Go.Proofs
open Go.Shelf
def Tryz.lays99_ren : Go.Shelf.Ren := ⟨fun | 99 => 125 | 206 => 126 | n => n, fun | 9 => 9 | 4 => 4 | 3 => 3 | n => n, fun | n => n⟩
theorem Tryz.lays99 : Go.Proofs.Lays.n99 Tryz.prog Tryz.lays99_ren := {
  mixed := by kernel_rfl
  f99 := Tryz.func125.trans (congrArg some (by kernel_rfl))
  f206 := Tryz.func126.trans (congrArg some (by kernel_rfl))
  t3 := Tryz.underlying3
  a3 := Tryz.isAgg3
  z3 := Tryz.sizeOf3
  v3 := Tryz.zeroValue3
  t4 := Tryz.underlying4
  a4 := Tryz.isAgg4
  z4 := Tryz.sizeOf4
  v4 := Tryz.zeroValue4
  t9 := Tryz.underlying9
  a9 := Tryz.isAgg9
  z9 := Tryz.sizeOf9
  v9 := Tryz.zeroValue9 }
open Go.RowKit Go.Lib in
/-- strings.HasPrefix: "HasPrefix reports whether the string s begins with prefix.": IT RETURNS 'Lib.hasPrefix s prefix'; the world is as it was. (LAID: no walk: one application.) -/
theorem Tryz.strings_HasPrefix (s p : ByteArray) (w : World) :
    Calls Tryz.prog 125 #[.string s, .string p] w fun e w' => e = .returned (.bool (Lib.hasPrefix s.data.toList p.data.toList)) ∧ w' = w := Any.strings_HasPrefix Tryz.lays99 s p w
end Go.Proofs
end
