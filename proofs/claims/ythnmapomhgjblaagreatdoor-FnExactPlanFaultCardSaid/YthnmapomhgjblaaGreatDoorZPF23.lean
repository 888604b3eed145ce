/-
  CONTRACTS of errors.As at a planError: Go's own text, walked at this program's types. No law is proved here.
  What a row that lists errors.errorType and impl.sideSteps gives a walk; a world that meets the condition. Plain facts; no statement is proved here.
  CONTRACTS of the program's endFault, checkPlan and PlanFault. No law is proved here.
-/
import Derived.Test.YthnmapomhgjblaaGreatDoorZPF00
import Derived.LaidEql
import Derived.Stop.Asserts
import Derived.Test.YthnmapomhgjblaaGreatDoorZPF18
import Derived.LaidHandle
import Derived.Stop.Joined
import Derived.Test.YthnmapomhgjblaaGreatDoorZPF17
import Derived.Test.YthnmapomhgjblaaGreatDoorZPF20
import Derived.Test.YthnmapomhgjblaaGreatDoorZPF21
import Derived.Test.YthnmapomhgjblaaGreatDoorZPF22
import Derived.Deep.RegionHeld3
import Derived.Deep.RegionWith
import Derived.BigRegion
namespace Go.Proofs.YthnmapomhgjblaaGreatDoor
set_option maxRecDepth 4096
open Go.ChangeShapes Go.WideShapes Go.ChangeAt Go.RowKit Go.Extern.Stop Go.Stop Go.Extern

/-- errors.As of no error. -/
theorem asNone (t : Value) (w : World) : Calls Tryz.prog 23 #[.nilIface, t] w fun e w' => e = .returned (.bool false) ∧ w = w' := by
  go_enter Tryz.func23, Tryz.ntmps23
  go_wp2
  go_ret
  exact ⟨rfl, rfl⟩

theorem Tryz.valueOfP (t : Addr) (w : World) : (ReflectliteValue.unpack (.iface 59 (.pointer (some t)))).run Tryz.prog w
    = .ok (.agg #[.pointer (some ⟨2, 59, none⟩), .pointer (some ⟨w.heap.size, 0, none⟩), .int .u64 150]) (w.alloc (.cells #[.pointer (some t)] 59)) := by kernel_rfl
theorem Tryz.typeP (a : Addr) (w : World) : (ReflectliteValue.methodAny (ReflectliteValue.valueError "reflectlite.Value.Type" 0) (fun t _ _ _ => ReflectliteType.toType t) #[.agg #[.pointer (some ⟨2, 59, none⟩), .pointer (some a), .int .u64 150]]).run Tryz.prog w
    = .ok (.iface 111 (.agg #[.pointer (some ⟨2, 59, none⟩)])) w := by kernel_rfl
theorem Tryz.kindP (w : World) : ((ReflectliteType.abiMethod fun t => (fun a : Nat => Value.int IntKind.u8 (a : Int)) <$> Rtype.kind t) #[.pointer (some ⟨2, 59, none⟩)]).run Tryz.prog w = .ok (.int .u8 22) w := by kernel_rfl
theorem Tryz.kindE (w : World) : ((ReflectliteType.abiMethod fun t => (fun a : Nat => Value.int IntKind.u8 (a : Int)) <$> Rtype.kind t) #[.pointer (some ⟨2, 54, none⟩)]).run Tryz.prog w = .ok (.int .u8 25) w := by kernel_rfl
theorem rlmA (z : Sem Value) (f : TypeId → Addr → Nat → Nat → Sem Value) (v : Value) :
    ReflectliteValue.method z f #[v] = (do match ← ReflectliteValue.parts v with | none => z | some (t, a, fl) => f t a fl (fl % 32)) := rfl
theorem Tryz.partsP (a : Addr) (w : World) : (ReflectliteValue.parts (.agg #[.pointer (some ⟨2, 59, none⟩), .pointer (some a), .int .u64 150])).run Tryz.prog w = .ok (some (59, a, 150)) w := by kernel_rfl
theorem Tryz.isNilP (a p : Addr) (W : World) (ha : W.cell? a = some (.pointer (some p))) :
    (ReflectliteValue.method (ReflectliteValue.valueError "reflectlite.Value.IsNil" 0) ReflectliteValue.isNil #[.agg #[.pointer (some ⟨2, 59, none⟩), .pointer (some a), .int .u64 150]]).run Tryz.prog W = .ok (.bool false) W := by
  rw [rlmA]
  simp only [Sem.run_bind, Tryz.partsP, Result.andThen]
  simp [ReflectliteValue.isNil, loadVar, isAgg, underlying, Tryz.underlying59, ha, Result.andThen]
theorem Tryz.methodElemA (n : Nat) (h : Value) (w : World) : (Go.method (n + 1) 111 (.agg #[h]) "Elem").run Tryz.prog w = .ok (150, .agg #[h]) w := by kernel_rfl
theorem Tryz.elemP (w : World) : (ReflectliteType.method ReflectliteType.elem #[.agg #[.pointer (some ⟨2, 59, none⟩)]]).run Tryz.prog w = .ok (.iface 111 (.agg #[.pointer (some ⟨2, 54, none⟩)])) w := by kernel_rfl
theorem Tryz.implementsE (w : World) : (ReflectliteType.relation "Implements" ReflectliteType.implements_ #[.agg #[.pointer (some ⟨2, 54, none⟩)], .iface 111 (.agg #[.pointer (some ⟨2, 57, none⟩)])]).run Tryz.prog w = .ok (.bool true) w := by kernel_rfl
theorem Tryz.typeOfE (v : Value) (w : World) : (ReflectliteType.typeOf #[.iface 54 v]).run Tryz.prog w = .ok (.iface 111 (.agg #[.pointer (some ⟨2, 54, none⟩)])) w := by kernel_rfl
theorem Tryz.assignableE (w : World) : (ReflectliteType.relation "AssignableTo" ReflectliteType.assignableTo #[.agg #[.pointer (some ⟨2, 54, none⟩)], .iface 111 (.agg #[.pointer (some ⟨2, 54, none⟩)])]).run Tryz.prog w = .ok (.bool true) w := by kernel_rfl
theorem Tryz.valueOfE (c : Int) (w : World) : (ReflectliteValue.unpack (.iface 54 (.agg #[.int .i64 c]))).run Tryz.prog w
    = .ok (.agg #[.pointer (some ⟨2, 54, none⟩), .pointer (some ⟨w.heap.size, 0, none⟩), .int .u64 153]) (w.alloc (.cells #[.int .i64 c] 54)) := by kernel_rfl
theorem Tryz.elemOfP (w : World) : (Rtype.elem? 59).run Tryz.prog w = .ok (some 54) w := by kernel_rfl
theorem Tryz.mkE (p : Addr) (w : World) : (ReflectliteValue.mk 54 p ReflectliteValue.flagAddr).run Tryz.prog w = .ok (.agg #[.pointer (some ⟨2, 54, none⟩), .pointer (some p), .int .u64 409]) w := by kernel_rfl
theorem Tryz.elemVP (a p : Addr) (W : World) (ha : W.cell? a = some (.pointer (some p))) :
    (ReflectliteValue.method (ReflectliteValue.valueError "reflectlite.Value.Elem" 0) ReflectliteValue.elem #[.agg #[.pointer (some ⟨2, 59, none⟩), .pointer (some a), .int .u64 150]]).run Tryz.prog W
      = .ok (.agg #[.pointer (some ⟨2, 54, none⟩), .pointer (some p), .int .u64 409]) W := by
  rw [rlmA]
  simp only [Sem.run_bind, Tryz.partsP, Result.andThen]
  simp [ReflectliteValue.elem, loadVar, isAgg, underlying, Tryz.underlying59, ha, Result.andThen, Tryz.elemOfP, Tryz.mkE]
theorem rlsA (v x : Value) : ReflectliteValue.set #[v, x] = (do
    let (some (dst, a, fl), some (src, b, _)) := (← ReflectliteValue.parts v, ← ReflectliteValue.parts x)
      | unsupported (.noEntry "extern/(internal/reflectlite.Value).Set.zeroValue")
    if fl / ReflectliteValue.flagAddr % 2 == 0 then unsupported (.noEntry "extern/(internal/reflectlite.Value).Set.unaddressable")
    let val ← loadVar src b
    if ← Rtype.directlyAssignable dst src then storeVar dst a val
    else if ← Rtype.implements dst src then
      if (← Rtype.kind src) == 20 then
        match val with
        | .nilIface => unsupported (.noEntry "extern/reflectlite: a nil value of one interface type handed on as a value of another")
        | _ => storeVar dst a val
      else storeVar dst a (.iface src val)
    else panicString ("reflectlite.Set: value of type " ++ (← Rtype.spelt src) ++ " is not assignable to type " ++ (← Rtype.spelt dst))
    pure (.tuple #[])) := rfl
theorem Tryz.partsEa (a : Addr) (w : World) : (ReflectliteValue.parts (.agg #[.pointer (some ⟨2, 54, none⟩), .pointer (some a), .int .u64 409])).run Tryz.prog w = .ok (some (54, a, 409)) w := by kernel_rfl
theorem Tryz.partsE (a : Addr) (w : World) : (ReflectliteValue.parts (.agg #[.pointer (some ⟨2, 54, none⟩), .pointer (some a), .int .u64 153])).run Tryz.prog w = .ok (some (54, a, 153)) w := by kernel_rfl
theorem Tryz.directE (w : World) : (Rtype.directlyAssignable 54 54).run Tryz.prog w = .ok true w := by kernel_rfl
theorem Tryz.setE (ta b : Addr) (c : Int) (old : Value) (W : World) (hb : W.cell? b = some (.int .i64 c)) (ht : W.cell? ta = some old) (hf : W.frozen? ta = false) :
    (ReflectliteValue.set #[.agg #[.pointer (some ⟨2, 54, none⟩), .pointer (some ta), .int .u64 409], .agg #[.pointer (some ⟨2, 54, none⟩), .pointer (some b), .int .u64 153]]).run Tryz.prog W
      = .ok (.tuple #[]) (W.setCell ta (.int .i64 c)) := by
  rw [rlsA]
  simp only [Sem.run_bind, Tryz.partsEa, Tryz.partsE, Result.andThen]
  have hl : (loadCells b 1).run Tryz.prog W = .ok #[.int .i64 c] W := by
    simp [loadCells, loadCellsFrom, hb, Addr.add, Result.andThen]
  simp [ReflectliteValue.flagAddr, loadVar, isAgg, underlying, Tryz.underlying54, hl, Result.andThen, Tryz.directE, storeVar, Value.cells, storeCells, Addr.add]
  rw [run_store Tryz.prog W ta _ _ (by rfl)]
  simp [ht, hf]
theorem Tryz.methodKindA (n : Nat) (h : Value) (w : World) : (Go.method (n + 1) 111 (.agg #[h]) "Kind").run Tryz.prog w = .ok (140, h) w := by kernel_rfl
theorem Tryz.methodImplementsA (n : Nat) (h : Value) (w : World) : (Go.method (n + 1) 111 (.agg #[h]) "Implements").run Tryz.prog w = .ok (151, .agg #[h]) w := by kernel_rfl
theorem Tryz.methodAssignableToA (n : Nat) (h : Value) (w : World) : (Go.method (n + 1) 111 (.agg #[h]) "AssignableTo").run Tryz.prog w = .ok (148, .agg #[h]) w := by kernel_rfl

set_option maxHeartbeats 4000000 in
theorem asHit (c : Int) (t : Addr) (old : Value) (w : World) (hg : w.cell? ⟨0, 0, none⟩ = some (.iface 111 (.agg #[.pointer (some ⟨2, 57, none⟩)]))) (ht0 : w.cell? t = some old) (hf0 : w.frozen? t = false) :
    Calls Tryz.prog 23 #[.iface 54 (.agg #[.int .i64 c]), .iface 59 (.pointer (some t))] w fun ev w' => ev = .returned (.bool true) ∧ w' = ((((w.alloc (.cells #[.pointer (some t)] 59)).alloc (.cells #[.pointer (some ⟨2, 59, none⟩), .pointer (some ⟨w.heap.size, 0, none⟩), .int .u64 150] 84)).alloc (.cells #[.pointer (some ⟨2, 59, none⟩), .pointer (some ⟨w.heap.size, 0, none⟩), .int .u64 150] 84)).alloc (.cells #[.int .i64 c] 54)).setCell t (.int .i64 c) := by
  have hvo := @run_callFunc_extern Tryz.prog 46 _ (fun args => ReflectliteValue.unpack (args.getD 0 (.tuple #[]))) Tryz.func46 (by kernel_rfl) (by kernel_rfl) (by kernel_rfl) (by kernel_rfl)
  have hty := @run_callFunc_extern Tryz.prog 47 _ (ReflectliteValue.methodAny (ReflectliteValue.valueError "reflectlite.Value.Type" 0) (fun t _ _ _ => ReflectliteType.toType t)) Tryz.func47 (by kernel_rfl) (by kernel_rfl) (by kernel_rfl) (by kernel_rfl)
  have hnl := @run_callFunc_extern Tryz.prog 48 _ (ReflectliteValue.method (ReflectliteValue.valueError "reflectlite.Value.IsNil" 0) ReflectliteValue.isNil) Tryz.func48 (by kernel_rfl) (by kernel_rfl) (by kernel_rfl) (by kernel_rfl)
  have hkd := @run_callFunc_extern Tryz.prog 140 _ (ReflectliteType.abiMethod fun t => do pure (.int .u8 (← Rtype.kind t))) Tryz.func140 (by kernel_rfl) (by kernel_rfl) (by kernel_rfl) (by kernel_rfl)
  have hel := @run_callFunc_extern Tryz.prog 150 _ (ReflectliteType.method ReflectliteType.elem) Tryz.func150 (by kernel_rfl) (by kernel_rfl) (by kernel_rfl) (by kernel_rfl)
  have him := @run_callFunc_extern Tryz.prog 151 _ (ReflectliteType.relation "Implements" ReflectliteType.implements_) Tryz.func151 (by kernel_rfl) (by kernel_rfl) (by kernel_rfl) (by kernel_rfl)
  have hto := @run_callFunc_extern Tryz.prog 71 _ ReflectliteType.typeOf Tryz.func71 (by kernel_rfl) (by kernel_rfl) (by kernel_rfl) (by kernel_rfl)
  have hat := @run_callFunc_extern Tryz.prog 148 _ (ReflectliteType.relation "AssignableTo" ReflectliteType.assignableTo) Tryz.func148 (by kernel_rfl) (by kernel_rfl) (by kernel_rfl) (by kernel_rfl)
  have hve := @run_callFunc_extern Tryz.prog 72 _ (ReflectliteValue.method (ReflectliteValue.valueError "reflectlite.Value.Elem" 0) ReflectliteValue.elem) Tryz.func72 (by kernel_rfl) (by kernel_rfl) (by kernel_rfl) (by kernel_rfl)
  have hst := @run_callFunc_extern Tryz.prog 73 _ ReflectliteValue.set Tryz.func73 (by kernel_rfl) (by kernel_rfl) (by kernel_rfl) (by kernel_rfl)
  have tO := Tryz.typeOfE
  have mA := Tryz.methodAssignableToA
  have aE := Tryz.assignableE
  have vE := Tryz.valueOfE
  have f6 := Tryz.valueOfP
  have f7 := Tryz.typeP
  have mK := Tryz.methodKindA
  have mE := Tryz.methodElemA
  have mI := Tryz.methodImplementsA
  have kP := Tryz.kindP
  have kE := Tryz.kindE
  have eP := Tryz.elemP
  have iE := Tryz.implementsE
  have n8 := Tryz.isNilP ⟨w.heap.size, 0, none⟩ t ((w.alloc (.cells #[.pointer (some t)] 59)).alloc (.cells #[.pointer (some ⟨2, 59, none⟩), .pointer (some ⟨w.heap.size, 0, none⟩), .int .u64 150] 84)) (by simp)
  have hlt : 0 < w.heap.size := by
    rcases Nat.lt_or_ge 0 w.heap.size with h | h
    · exact h
    · simp [World.cell?, Array.getElem?_eq_none h] at hg
  have hg2 : ((w.alloc (.cells #[.pointer (some t)] 59)).alloc (.cells #[.pointer (some ⟨2, 59, none⟩), .pointer (some ⟨w.heap.size, 0, none⟩), .int .u64 150] 84)).cell? ⟨0, 0, none⟩ = some (.iface 111 (.agg #[.pointer (some ⟨2, 57, none⟩)])) := by
    rw [World.cell?_alloc_lt _ _ ⟨0, 0, none⟩ (by first | (simp; done) | (simp; omega)), World.cell?_alloc_lt _ _ ⟨0, 0, none⟩ hlt]; exact hg
  have htl : t.block < w.heap.size := by
    rcases Nat.lt_or_ge t.block w.heap.size with h | h
    · exact h
    · simp [World.cell?, Array.getElem?_eq_none h] at ht0
  have el := Tryz.elemVP ⟨w.heap.size, 0, none⟩ t (((w.alloc (.cells #[.pointer (some t)] 59)).alloc (.cells #[.pointer (some ⟨2, 59, none⟩), .pointer (some ⟨w.heap.size, 0, none⟩), .int .u64 150] 84)).alloc (.cells #[.pointer (some ⟨2, 59, none⟩), .pointer (some ⟨w.heap.size, 0, none⟩), .int .u64 150] 84)) (by rw [World.cell?_alloc_lt _ _ ⟨w.heap.size, 0, none⟩ (by simp; omega)]; simp)
  have st := Tryz.setE t ⟨w.heap.size + 1 + 1 + 1, 0, none⟩ c old ((((w.alloc (.cells #[.pointer (some t)] 59)).alloc (.cells #[.pointer (some ⟨2, 59, none⟩), .pointer (some ⟨w.heap.size, 0, none⟩), .int .u64 150] 84)).alloc (.cells #[.pointer (some ⟨2, 59, none⟩), .pointer (some ⟨w.heap.size, 0, none⟩), .int .u64 150] 84)).alloc (.cells #[.int .i64 c] 54))
    (by rw [World.cell?_alloc_at _ _ _ _ (by simp)]; rfl)
    (by rw [World.cell?_alloc_lt _ _ t (by simp; omega), World.cell?_alloc_lt _ _ t (by simp; omega), World.cell?_alloc_lt _ _ t (by simp; omega), World.cell?_alloc_lt _ _ t htl]; exact ht0)
    (by rw [World.frozen?_alloc_old _ _ t (by simp; omega), World.frozen?_alloc_old _ _ t (by simp; omega), World.frozen?_alloc_old _ _ t (by simp; omega), World.frozen?_alloc_old _ _ t (Nat.ne_of_lt htl)]; exact hf0)
  go_enter Tryz.func23, Tryz.ntmps23
  go_wp2
  refine wp_loop_rounds 1 ?_
  rw [rounds_succ]
  go_wp2
  go_ret
  exact ⟨rfl, rfl⟩

end Go.Proofs.YthnmapomhgjblaaGreatDoor

namespace Go.Proofs.YthnmapomhgjblaaGreatDoor
set_option maxRecDepth 4096
open Go.ChangeShapes Go.WideShapes Go.RowKit

theorem Tryz.errGlobal : Tryz.prog.globalNamed "errors.errorType" = some 0 := by kernel_rfl
theorem Tryz.rtypeIs : (Tryz.prog.cutTypes.find? (·.1 == "internal/reflectlite.rtype")).map (·.2) = some 111 := by kernel_rfl
theorem Tryz.errRow : ((List.range Tryz.prog.types.size).filter fun t => Tryz.prog.rowNamed t [101, 114, 114, 111, 114]) = [57] := by kernel_rfl
def ErrAt (w : World) : Prop := w.cell? ⟨0, 0, none⟩ = some (.iface 111 (.agg #[.pointer (some ⟨2, 57, none⟩)]))
theorem err_in {w : World} (h : ErrAt w) : 0 < w.heap.size := by
  rcases Nat.lt_or_ge 0 w.heap.size with k | k
  · exact k
  · simp [ErrAt, World.cell?, Array.getElem?_eq_none k] at h
theorem ErrAt.below {w w' : World} (h : ErrAt w) (hb : Below w.heap.size w w') : ErrAt w' := (hb.cell (p := ⟨0, 0, none⟩) (err_in h)).trans h
theorem both_of_laid {w : World} (h : laidMetH Tryz.prog [("errors.errorType", Rows.laid_errors_errorType), (sidesName, Rows.laid_loop_example_g00961_impl_sideSteps)] w) : SidesAt w ∧ ErrAt w := by
  have h' : laidMet Tryz.prog [(sidesName, Rows.laid_loop_example_g00961_impl_sideSteps)] w ∧ handlesMet Tryz.prog [("errors.errorType", Rows.laid_errors_errorType)] w := h
  refine ⟨sides_of_laid (by rw [MakeChecks.laidMetH_plain _ _ _ (by kernel_rfl)]; exact h'.1), ?_⟩
  obtain ⟨name, u, ty, e1, e2, e3, e4, e5⟩ := h'.2 _ (List.mem_singleton.2 rfl)
  have en : name = [101, 114, 114, 111, 114] := (Option.some.inj e1).symm
  subst en
  obtain rfl := Option.some.inj (Tryz.rtypeIs.symm.trans e2)
  have hm : ty ∈ (List.range Tryz.prog.types.size).filter fun t => Tryz.prog.rowNamed t [101, 114, 114, 111, 114] := List.mem_filter.2 ⟨List.mem_range.2 e3, e4⟩
  rw [Tryz.errRow] at hm
  obtain rfl := List.mem_singleton.1 hm
  have hh : typeHandle Tryz.prog 57 = .pointer (some ⟨2, 57, none⟩) := by kernel_rfl
  rw [hh] at e5
  have := World.var?_cell Tryz.errGlobal e5 0
  unfold ErrAt
  simpa using this
theorem both_met (os : Os) (args : Array Value) : laidMetH Tryz.prog [("errors.errorType", Rows.laid_errors_errorType), (sidesName, Rows.laid_loop_example_g00961_impl_sideSteps)] ((World.doorLaid Tryz.prog 400 os).forCall (fun _ _ => 0) ⟨#[], args, []⟩).memory :=
  laidMetH_of_parts3 (fuel := 8) (laidMet_of_run' 8 (by kernel_rfl) (by kernel_rfl)) (by kernel_rfl) (by kernel_rfl)

end Go.Proofs.YthnmapomhgjblaaGreatDoor

namespace Go.Proofs.YthnmapomhgjblaaGreatDoor
set_option maxRecDepth 4096
open Go.ChangeShapes Go.WideShapes Go.ChangeAt Go.RowKit

theorem end_no {G : List Int} {M : Int} {Ws : List (List Int)} {j : Nat} {d : Int} (hd : G[j]? = some d) (h : (onceL (lastsL Ws)).contains d = false) : endV G M Ws = 7 := by
  unfold endV
  refine if_pos ?_
  cases e : G.all fun d => (onceL (lastsL Ws)).contains d with
  | false => rfl
  | true =>
    have := List.all_eq_true.1 e d (List.mem_of_getElem? hd)
    rw [h] at this
    cases this
theorem end_yes {G : List Int} {M : Int} {Ws : List (List Int)} (h : ∀ (j : Nat) d, G[j]? = some d → (onceL (lastsL Ws)).contains d = true) : endV G M Ws = if M ≠ (movesW Ws : Int) then 8 else 0 := by
  unfold endV
  refine if_neg ?_
  have : (G.all fun d => (onceL (lastsL Ws)).contains d) = true := List.all_eq_true.2 fun d hd => by
    obtain ⟨j, hj, rfl⟩ := List.getElem_of_mem hd
    exact h j _ (List.getElem?_eq_getElem hj)
  rw [this]
  decide

/-- The plan's box, while a call goes on. -/
theorem held_plan {w w' w'' : World} {a b c : Value} {t : TypeId} (h : Below (w.alloc (.cells #[a, b, c] t)).heap.size (w.alloc (.cells #[a, b, c] t)) w') (hb : Below w'.heap.size w' w'') :
    w''.cell? ⟨w.heap.size, 1, none⟩ = some b ∧ w''.cell? ⟨w.heap.size, 2, none⟩ = some c ∧ Below (w.alloc (.cells #[a, b, c] t)).heap.size (w.alloc (.cells #[a, b, c] t)) w'' := by
  have h2 := h.trans (hb.mono h.size)
  obtain ⟨_, p1, p2⟩ := pair_cells h2
  exact ⟨p1, p2, h2⟩

set_option maxHeartbeats 4000000 in
theorem implEnd (vg v : Value) (G : List Int) (Ws : List (List Int)) (T M : Int) (c : Nat) (hG : G.length ≤ 2000000) (hW : Ws.length ≤ 2000000) (hT : totW Ws ≤ 2000000) (HX : Hid (endV G M Ws = c)) (w : World) (hg : Ints w vg G) (hv : WaysAt w v Ws) :
    Calls Tryz.prog 54 #[vg, .agg #[.int .i64 T, .int .i64 M, v]] w (Made w (errV c)) := by
  obtain ⟨R, HR⟩ : ∃ R, Hid (onceL (lastsL Ws) = R) := ⟨_, rfl⟩
  obtain ⟨n, HN⟩ : ∃ n, Hid (movesW Ws = n) := ⟨_, rfl⟩
  have hRl : R.length ≤ 2000000 := by
    rw [← HR.out]
    exact Nat.le_trans (once_len _) (Nat.le_trans (lasts_len Ws) hT)
  have hB := Below.refl (w.alloc (.cells #[.int .i64 T, .int .i64 M, v] 29)).heap.size (w.alloc (.cells #[.int .i64 T, .int .i64 M, v] 29))
  have HB0 := Lib.hid hB
  have HE := Lib.hid (implEnds v Ws R hW hT HR _ (waysAt_on hv (box_below hB)))
  have HMV : Hid (∀ wr, Below w.heap.size w wr → Calls Tryz.prog 81 #[v] wr (Made wr (.int .i64 (n : Int)))) := Lib.hid fun wr hb => implMoves v Ws n hW hT HN wr (waysAt_on hv hb)
  have HGG := Lib.hid hg
  obtain ⟨p0, p1, p2⟩ := pair_cells hB
  obtain ⟨av, cv, rfl, _⟩ := hv
  obtain ⟨ag, cg, rfl, _⟩ := ints_form hg
  clear hT hB hg
  go_enter Tryz.func54, Tryz.ntmps54
  go_wp2_with fail
  refine HE.out.mono ?_
  rintro e w1 ⟨ve, rfl, hown, hb⟩
  obtain ⟨ae, ce, rfl⟩ := own_form hown
  have HB1 := Lib.hid (chain HB0.out hb)
  have HRW := Lib.hid (ints_of_own hown)
  clear HB0 HE hown hb p0 p1 p2
  go_wp2_with fail
  go_loopw [7, 13] (fun _ i wr => ∃ j : Nat, j ≤ G.length ∧ i = .int .i64 (j : Int) ∧ Hid (∀ (k : Nat) d, k < j → G[k]? = some d → R.contains d = true) ∧ wr = w1) (fun _ i _ => G.length - (intOf i).toNat)
  case atStart => exact ⟨0, Nat.zero_le _, rfl, Lib.hid fun k d h => absurd h (by omega), rfl⟩
  case round =>
    obtain ⟨j, hj, rfl, HK, rfl⟩ := hrel
    by_cases hlt : j < G.length
    · have hlt2 : (j : Int) < (G.length : Int) := by omega
      obtain ⟨d, hd⟩ : ∃ d, G[j]? = some d := ⟨_, List.getElem?_eq_getElem hlt⟩
      obtain ⟨_, _, e, HI⟩ := ints_form (ints_on HGG.out (box_below HB1.out))
      injection e with e1 e2 e3
      subst e1
      clear e2 e3
      rcases HI with h0 | ⟨g, rfl, hgl, hc⟩
      · omega
      · have d0 := hc j d hd
        obtain ⟨r, HRR⟩ : ∃ r, Hid (R.contains d = r) := ⟨_, rfl⟩
        have HCC := Lib.hid (containsI R d _ r hRl HRR wr HRW.out)
        have HD := Lib.hid hd
        clear hc hd
        cases r with
        | true =>
          go_wp2_with fail
          refine HCC.out.mono ?_
          rintro e w2 ⟨rfl, rfl⟩
          go_wp2_with fail
          go_roundw
          case rel => exact ⟨j + 1, by omega, by go_num, Lib.hid fun k d2 h1 h2 => (by
            rcases Nat.lt_succ_iff_lt_or_eq.1 h1 with h | h
            · exact HK.out k d2 h h2
            · rw [h, HD.out] at h2
              cases h2
              exact HRR.out), (by first | trivial | rfl)⟩
          case measure => simp [intOf]; omega
        | false =>
          obtain rfl : c = 7 := by rw [← HX.out]; exact end_no HD.out (by rw [HR.out]; exact HRR.out)
          go_wp2_with fail
          refine HCC.out.mono ?_
          rintro e w2 ⟨rfl, rfl⟩
          go_wp2_with fail
          go_ret
          exact ⟨rfl, box_below HB1.out⟩
    · obtain rfl : j = G.length := by omega
      have hnl : ¬ (G.length : Int) < (G.length : Int) := by omega
      have hc : c = if M ≠ (n : Int) then 8 else 0 := by
        rw [← HX.out, end_yes fun k d hd => by rw [HR.out]; exact HK.out k d (List.getElem?_eq_some_iff.1 hd).1 hd, HN.out]
      obtain ⟨p0, p1, p2⟩ := pair_cells HB1.out
      have hS0 : wr.drew.cell? ⟨w.heap.size, 1, none⟩ = some (.int .i64 M) ∧ wr.drew.cell? ⟨w.heap.size, 2, none⟩ = some (.slice av Ws.length cv) ∧ Below (w.alloc (.cells #[.int .i64 T, .int .i64 M, .slice av Ws.length cv] 29)).heap.size (w.alloc (.cells #[.int .i64 T, .int .i64 M, .slice av Ws.length cv] 29)) wr.drew := ⟨p1, p2, HB1.out.drew⟩
      by_cases hM : M = (n : Int)
      · have hb : (M != (n : Int)) = false := by simp [hM]
        rw [if_neg (by simp [hM])] at hc
        subst hc
        clear hM
        go_wp2
        go_region_held3 (fun w' => w'.cell? ⟨w.heap.size, 1, none⟩ = some (.int .i64 M) ∧ w'.cell? ⟨w.heap.size, 2, none⟩ = some (.slice av Ws.length cv) ∧ Below (w.alloc (.cells #[.int .i64 T, .int .i64 M, .slice av Ws.length cv] 29)).heap.size (w.alloc (.cells #[.int .i64 T, .int .i64 M, .slice av Ws.length cv] 29)) w')
          (first | exact hS | exact hS0 | go_keep)
          (first | (go_at_call 81; (try go_split_ands); have hB0 : Below (w.alloc (.cells #[.int .i64 T, .int .i64 M, .slice av Ws.length cv] 29)).heap.size (w.alloc (.cells #[.int .i64 T, .int .i64 M, .slice av Ws.length cv] 29)) _ := (by assumption); (with_reducible refine (HMV.out _ (box_below hB0)).mono ?_); rintro e w9 ⟨rfl, hb⟩; (try go_split_ands); have hS := held_plan hB0 hb; clear hb))
        all_goals
          go_wp2_with fail
          go_ret
          exact ⟨rfl, box_below hS.2.2⟩
      · have hb : (M != (n : Int)) = true := by simpa using hM
        rw [if_pos hM] at hc
        subst hc
        clear hM
        go_wp2
        go_region_held3 (fun w' => w'.cell? ⟨w.heap.size, 1, none⟩ = some (.int .i64 M) ∧ w'.cell? ⟨w.heap.size, 2, none⟩ = some (.slice av Ws.length cv) ∧ Below (w.alloc (.cells #[.int .i64 T, .int .i64 M, .slice av Ws.length cv] 29)).heap.size (w.alloc (.cells #[.int .i64 T, .int .i64 M, .slice av Ws.length cv] 29)) w')
          (first | exact hS | exact hS0 | go_keep)
          (first | (go_at_call 81; (try go_split_ands); have hB0 : Below (w.alloc (.cells #[.int .i64 T, .int .i64 M, .slice av Ws.length cv] 29)).heap.size (w.alloc (.cells #[.int .i64 T, .int .i64 M, .slice av Ws.length cv] 29)) _ := (by assumption); (with_reducible refine (HMV.out _ (box_below hB0)).mono ?_); rintro e w9 ⟨rfl, hb⟩; (try go_split_ands); have hS := held_plan hB0 hb; clear hb))
        all_goals
          go_wp2_with fail
          go_ret
          exact ⟨rfl, box_below hS.2.2⟩

end Go.Proofs.YthnmapomhgjblaaGreatDoor

