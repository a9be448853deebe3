import Derived.Test.YtiiplikmoodfnaaGreatDoorProg
import Derived.WalkKit
import Derived.LaidEql
import Derived.Stop.Asserts
import Derived.RowKitTokens
import Derived.Test.YtiiplikmoodfnaaGreatDoorKARd
/-
  errors.As AT A PosError AND AT A NUMBER, BY ITS CONTRACTS.
-/
namespace Go.Proofs.YtiiplikmoodfnaaGreatDoor
open Go.RowKit Go.Extern.Stop Go.Stop Go.Extern

theorem as_nil (t : Value) (w : World) : Calls Tryz.prog 14 #[.nilIface, t] w fun e w' => e = .returned (.bool false) ∧ w' = w := by
  go_enter Tryz.func14, Tryz.ntmps14
  go_wp2
  go_ret
  exact ⟨rfl, rfl⟩
theorem cell_lt' {w : World} {a : Addr} {v : Value} (h : w.cell? a = some v) : a.block < w.heap.size := by
  rcases Nat.lt_or_ge a.block w.heap.size with h1 | h1
  · exact h1
  · simp [World.cell?, Array.getElem?_eq_none h1] at h
theorem m_kind (h : Value) (w : World) : (Go.method 341 139 (.agg #[h]) "Kind").run Tryz.prog w = .ok (133, h) w := by kernel_rfl
theorem m_elem (h : Value) (w : World) : (Go.method 341 139 (.agg #[h]) "Elem").run Tryz.prog w = .ok (145, .agg #[h]) w := by kernel_rfl
theorem m_impl (h : Value) (w : World) : (Go.method 341 139 (.agg #[h]) "Implements").run Tryz.prog w = .ok (146, .agg #[h]) w := by kernel_rfl
theorem m_asgn (h : Value) (w : World) : (Go.method 341 139 (.agg #[h]) "AssignableTo").run Tryz.prog w = .ok (143, .agg #[h]) w := by kernel_rfl
theorem valTP (t : Addr) (w : World) : (ReflectliteValue.unpack (.iface 65 (.pointer (some t)))).run Tryz.prog w = .ok (.agg #[.pointer (some ⟨8, 65, none⟩), .pointer (some ⟨w.heap.size, 0, none⟩), .int .u64 150]) (w.alloc (.cells #[.pointer (some t)] 65)) := by kernel_rfl
theorem typTP (a : Addr) (w : World) : (ReflectliteValue.methodAny (ReflectliteValue.valueError "reflectlite.Value.Type" 0) (fun t _ _ _ => ReflectliteType.toType t) #[.agg #[.pointer (some ⟨8, 65, none⟩), .pointer (some a), .int .u64 150]]).run Tryz.prog w = .ok (.iface 139 (.agg #[.pointer (some ⟨8, 65, none⟩)])) w := by kernel_rfl
theorem kindTP (w : World) : ((ReflectliteType.abiMethod fun t => (fun a : Nat => Value.int IntKind.u8 (a : Int)) <$> Rtype.kind t) #[.pointer (some ⟨8, 65, none⟩)]).run Tryz.prog w = .ok (.int .u8 22) w := by kernel_rfl
theorem kindEP (w : World) : ((ReflectliteType.abiMethod fun t => (fun a : Nat => Value.int IntKind.u8 (a : Int)) <$> Rtype.kind t) #[.pointer (some ⟨8, 63, none⟩)]).run Tryz.prog w = .ok (.int .u8 22) w := by kernel_rfl
theorem partTP (a : Addr) (w : World) : (ReflectliteValue.parts (.agg #[.pointer (some ⟨8, 65, none⟩), .pointer (some a), .int .u64 150])).run Tryz.prog w = .ok (some (65, a, 150)) w := by kernel_rfl
theorem isNilP (a p : Addr) (W : World) (ha : W.cell? a = some (.pointer (some p))) :
    (ReflectliteValue.method (ReflectliteValue.valueError "reflectlite.Value.IsNil" 0) ReflectliteValue.isNil #[.agg #[.pointer (some ⟨8, 65, none⟩), .pointer (some a), .int .u64 150]]).run Tryz.prog W = .ok (.bool false) W := by
  rw [show ReflectliteValue.method (ReflectliteValue.valueError "reflectlite.Value.IsNil" 0) ReflectliteValue.isNil #[.agg #[.pointer (some ⟨8, 65, none⟩), .pointer (some a), .int .u64 150]] = (ReflectliteValue.parts (.agg #[.pointer (some ⟨8, 65, none⟩), .pointer (some a), .int .u64 150]) >>= fun p => _) from rfl]
  simp only [Sem.run_bind, partTP, Result.andThen]
  simp [ReflectliteValue.isNil, loadVar, isAgg, underlying, Tryz.underlying65, ha, Result.andThen]
theorem elemTP (w : World) : (ReflectliteType.method ReflectliteType.elem #[.agg #[.pointer (some ⟨8, 65, none⟩)]]).run Tryz.prog w = .ok (.iface 139 (.agg #[.pointer (some ⟨8, 63, none⟩)])) w := by kernel_rfl
theorem typeEP (v : Value) (w : World) : (ReflectliteType.typeOf #[.iface 63 v]).run Tryz.prog w = .ok (.iface 139 (.agg #[.pointer (some ⟨8, 63, none⟩)])) w := by kernel_rfl
theorem asgnP (w : World) : (ReflectliteType.relation "AssignableTo" ReflectliteType.assignableTo #[.agg #[.pointer (some ⟨8, 63, none⟩)], .iface 139 (.agg #[.pointer (some ⟨8, 63, none⟩)])]).run Tryz.prog w = .ok (.bool true) w := by kernel_rfl
theorem implP (w : World) : (ReflectliteType.relation "Implements" ReflectliteType.implements_ #[.agg #[.pointer (some ⟨8, 63, none⟩)], .iface 139 (.agg #[.pointer (some ⟨8, 28, none⟩)])]).run Tryz.prog w = .ok (.bool true) w := by kernel_rfl
theorem valEP (e : Addr) (w : World) : (ReflectliteValue.unpack (.iface 63 (.pointer (some e)))).run Tryz.prog w = .ok (.agg #[.pointer (some ⟨8, 63, none⟩), .pointer (some ⟨w.heap.size, 0, none⟩), .int .u64 150]) (w.alloc (.cells #[(.pointer (some e))] 63)) := by kernel_rfl
theorem elOfP (w : World) : (Rtype.elem? 65).run Tryz.prog w = .ok (some 63) w := by kernel_rfl
theorem mkEP (p : Addr) (w : World) : (ReflectliteValue.mk 63 p ReflectliteValue.flagAddr).run Tryz.prog w = .ok (.agg #[.pointer (some ⟨8, 63, none⟩), .pointer (some p), .int .u64 406]) w := by kernel_rfl
theorem elVP (a p : Addr) (W : World) (ha : W.cell? a = some (.pointer (some p))) :
    (ReflectliteValue.method (ReflectliteValue.valueError "reflectlite.Value.Elem" 0) ReflectliteValue.elem #[.agg #[.pointer (some ⟨8, 65, none⟩), .pointer (some a), .int .u64 150]]).run Tryz.prog W = .ok (.agg #[.pointer (some ⟨8, 63, none⟩), .pointer (some p), .int .u64 406]) W := by
  rw [show ReflectliteValue.method (ReflectliteValue.valueError "reflectlite.Value.Elem" 0) ReflectliteValue.elem #[.agg #[.pointer (some ⟨8, 65, none⟩), .pointer (some a), .int .u64 150]] = (ReflectliteValue.parts (.agg #[.pointer (some ⟨8, 65, none⟩), .pointer (some a), .int .u64 150]) >>= fun p => _) from rfl]
  simp only [Sem.run_bind, partTP, Result.andThen]
  simp [ReflectliteValue.elem, loadVar, isAgg, underlying, Tryz.underlying65, ha, Result.andThen, elOfP, mkEP]
theorem partAP (a : Addr) (w : World) : (ReflectliteValue.parts (.agg #[.pointer (some ⟨8, 63, none⟩), .pointer (some a), .int .u64 406])).run Tryz.prog w = .ok (some (63, a, 406)) w := by kernel_rfl
theorem partEP (a : Addr) (w : World) : (ReflectliteValue.parts (.agg #[.pointer (some ⟨8, 63, none⟩), .pointer (some a), .int .u64 150])).run Tryz.prog w = .ok (some (63, a, 150)) w := by kernel_rfl
theorem dirP (w : World) : (Rtype.directlyAssignable 63 63).run Tryz.prog w = .ok true w := by kernel_rfl
theorem setP (ta b : Addr) (e : Addr) (old : Value) (W : World) (hb : W.cell? b = some (.pointer (some e))) (ht : W.cell? ta = some old) (hf : W.frozen? ta = false) :
    (ReflectliteValue.set #[.agg #[.pointer (some ⟨8, 63, none⟩), .pointer (some ta), .int .u64 406], .agg #[.pointer (some ⟨8, 63, none⟩), .pointer (some b), .int .u64 150]]).run Tryz.prog W = .ok (.tuple #[]) (W.setCell ta (.pointer (some e))) := by
  rw [show ReflectliteValue.set #[.agg #[.pointer (some ⟨8, 63, none⟩), .pointer (some ta), .int .u64 406], .agg #[.pointer (some ⟨8, 63, none⟩), .pointer (some b), .int .u64 150]] = (ReflectliteValue.parts (.agg #[.pointer (some ⟨8, 63, none⟩), .pointer (some ta), .int .u64 406]) >>= fun p => ReflectliteValue.parts (.agg #[.pointer (some ⟨8, 63, none⟩), .pointer (some b), .int .u64 150]) >>= fun q => _) from rfl]
  simp only [Sem.run_bind, partAP, partEP, Result.andThen]
  simp [ReflectliteValue.flagAddr, loadVar, isAgg, underlying, Tryz.underlying63, hb, Result.andThen, dirP, storeVar, Value.cells, storeCells, Addr.add]
  rw [run_store Tryz.prog W ta _ _ (by rfl)]
  simp [ht, hf]
theorem valTN (t : Addr) (w : World) : (ReflectliteValue.unpack (.iface 70 (.pointer (some t)))).run Tryz.prog w = .ok (.agg #[.pointer (some ⟨8, 70, none⟩), .pointer (some ⟨w.heap.size, 0, none⟩), .int .u64 150]) (w.alloc (.cells #[.pointer (some t)] 70)) := by kernel_rfl
theorem typTN (a : Addr) (w : World) : (ReflectliteValue.methodAny (ReflectliteValue.valueError "reflectlite.Value.Type" 0) (fun t _ _ _ => ReflectliteType.toType t) #[.agg #[.pointer (some ⟨8, 70, none⟩), .pointer (some a), .int .u64 150]]).run Tryz.prog w = .ok (.iface 139 (.agg #[.pointer (some ⟨8, 70, none⟩)])) w := by kernel_rfl
theorem kindTN (w : World) : ((ReflectliteType.abiMethod fun t => (fun a : Nat => Value.int IntKind.u8 (a : Int)) <$> Rtype.kind t) #[.pointer (some ⟨8, 70, none⟩)]).run Tryz.prog w = .ok (.int .u8 22) w := by kernel_rfl
theorem kindEN (w : World) : ((ReflectliteType.abiMethod fun t => (fun a : Nat => Value.int IntKind.u8 (a : Int)) <$> Rtype.kind t) #[.pointer (some ⟨8, 51, none⟩)]).run Tryz.prog w = .ok (.int .u8 2) w := by kernel_rfl
theorem partTN (a : Addr) (w : World) : (ReflectliteValue.parts (.agg #[.pointer (some ⟨8, 70, none⟩), .pointer (some a), .int .u64 150])).run Tryz.prog w = .ok (some (70, a, 150)) w := by kernel_rfl
theorem isNilN (a p : Addr) (W : World) (ha : W.cell? a = some (.pointer (some p))) :
    (ReflectliteValue.method (ReflectliteValue.valueError "reflectlite.Value.IsNil" 0) ReflectliteValue.isNil #[.agg #[.pointer (some ⟨8, 70, none⟩), .pointer (some a), .int .u64 150]]).run Tryz.prog W = .ok (.bool false) W := by
  rw [show ReflectliteValue.method (ReflectliteValue.valueError "reflectlite.Value.IsNil" 0) ReflectliteValue.isNil #[.agg #[.pointer (some ⟨8, 70, none⟩), .pointer (some a), .int .u64 150]] = (ReflectliteValue.parts (.agg #[.pointer (some ⟨8, 70, none⟩), .pointer (some a), .int .u64 150]) >>= fun p => _) from rfl]
  simp only [Sem.run_bind, partTN, Result.andThen]
  simp [ReflectliteValue.isNil, loadVar, isAgg, underlying, Tryz.underlying70, ha, Result.andThen]
theorem elemTN (w : World) : (ReflectliteType.method ReflectliteType.elem #[.agg #[.pointer (some ⟨8, 70, none⟩)]]).run Tryz.prog w = .ok (.iface 139 (.agg #[.pointer (some ⟨8, 51, none⟩)])) w := by kernel_rfl
theorem typeEN (v : Value) (w : World) : (ReflectliteType.typeOf #[.iface 51 v]).run Tryz.prog w = .ok (.iface 139 (.agg #[.pointer (some ⟨8, 51, none⟩)])) w := by kernel_rfl
theorem asgnN (w : World) : (ReflectliteType.relation "AssignableTo" ReflectliteType.assignableTo #[.agg #[.pointer (some ⟨8, 51, none⟩)], .iface 139 (.agg #[.pointer (some ⟨8, 51, none⟩)])]).run Tryz.prog w = .ok (.bool true) w := by kernel_rfl
theorem implN (w : World) : (ReflectliteType.relation "Implements" ReflectliteType.implements_ #[.agg #[.pointer (some ⟨8, 51, none⟩)], .iface 139 (.agg #[.pointer (some ⟨8, 28, none⟩)])]).run Tryz.prog w = .ok (.bool true) w := by kernel_rfl
theorem valEN (e : Int) (w : World) : (ReflectliteValue.unpack (.iface 51 (.int .i64 e))).run Tryz.prog w = .ok (.agg #[.pointer (some ⟨8, 51, none⟩), .pointer (some ⟨w.heap.size, 0, none⟩), .int .u64 130]) (w.alloc (.cells #[(.int .i64 e)] 51)) := by kernel_rfl
theorem elOfN (w : World) : (Rtype.elem? 70).run Tryz.prog w = .ok (some 51) w := by kernel_rfl
theorem mkEN (p : Addr) (w : World) : (ReflectliteValue.mk 51 p ReflectliteValue.flagAddr).run Tryz.prog w = .ok (.agg #[.pointer (some ⟨8, 51, none⟩), .pointer (some p), .int .u64 386]) w := by kernel_rfl
theorem elVN (a p : Addr) (W : World) (ha : W.cell? a = some (.pointer (some p))) :
    (ReflectliteValue.method (ReflectliteValue.valueError "reflectlite.Value.Elem" 0) ReflectliteValue.elem #[.agg #[.pointer (some ⟨8, 70, none⟩), .pointer (some a), .int .u64 150]]).run Tryz.prog W = .ok (.agg #[.pointer (some ⟨8, 51, none⟩), .pointer (some p), .int .u64 386]) W := by
  rw [show ReflectliteValue.method (ReflectliteValue.valueError "reflectlite.Value.Elem" 0) ReflectliteValue.elem #[.agg #[.pointer (some ⟨8, 70, none⟩), .pointer (some a), .int .u64 150]] = (ReflectliteValue.parts (.agg #[.pointer (some ⟨8, 70, none⟩), .pointer (some a), .int .u64 150]) >>= fun p => _) from rfl]
  simp only [Sem.run_bind, partTN, Result.andThen]
  simp [ReflectliteValue.elem, loadVar, isAgg, underlying, Tryz.underlying70, ha, Result.andThen, elOfN, mkEN]
theorem partAN (a : Addr) (w : World) : (ReflectliteValue.parts (.agg #[.pointer (some ⟨8, 51, none⟩), .pointer (some a), .int .u64 386])).run Tryz.prog w = .ok (some (51, a, 386)) w := by kernel_rfl
theorem partEN (a : Addr) (w : World) : (ReflectliteValue.parts (.agg #[.pointer (some ⟨8, 51, none⟩), .pointer (some a), .int .u64 130])).run Tryz.prog w = .ok (some (51, a, 130)) w := by kernel_rfl
theorem dirN (w : World) : (Rtype.directlyAssignable 51 51).run Tryz.prog w = .ok true w := by kernel_rfl
theorem setN (ta b : Addr) (e : Int) (old : Value) (W : World) (hb : W.cell? b = some (.int .i64 e)) (ht : W.cell? ta = some old) (hf : W.frozen? ta = false) :
    (ReflectliteValue.set #[.agg #[.pointer (some ⟨8, 51, none⟩), .pointer (some ta), .int .u64 386], .agg #[.pointer (some ⟨8, 51, none⟩), .pointer (some b), .int .u64 130]]).run Tryz.prog W = .ok (.tuple #[]) (W.setCell ta (.int .i64 e)) := by
  rw [show ReflectliteValue.set #[.agg #[.pointer (some ⟨8, 51, none⟩), .pointer (some ta), .int .u64 386], .agg #[.pointer (some ⟨8, 51, none⟩), .pointer (some b), .int .u64 130]] = (ReflectliteValue.parts (.agg #[.pointer (some ⟨8, 51, none⟩), .pointer (some ta), .int .u64 386]) >>= fun p => ReflectliteValue.parts (.agg #[.pointer (some ⟨8, 51, none⟩), .pointer (some b), .int .u64 130]) >>= fun q => _) from rfl]
  simp only [Sem.run_bind, partAN, partEN, Result.andThen]
  simp [ReflectliteValue.flagAddr, loadVar, isAgg, underlying, Tryz.underlying51, hb, Result.andThen, dirN, storeVar, Value.cells, storeCells, Addr.add]
  rw [run_store Tryz.prog W ta _ _ (by rfl)]
  simp [ht, hf]
set_option maxRecDepth 100000 in
set_option maxHeartbeats 4000000 in
theorem as_hitP (e : Addr) (t : Addr) (old : Value) (w : World) (hg : w.cell? ⟨0, 0, none⟩ = some (.iface 139 (.agg #[.pointer (some ⟨8, 28, none⟩)]))) (ht0 : w.cell? t = some old) (hf0 : w.frozen? t = false) :
    Calls Tryz.prog 14 #[.iface 63 (.pointer (some e)), .iface 65 (.pointer (some t))] w fun ev w' => ev = .returned (.bool true) ∧ w' = (((((w.alloc (.cells #[.pointer (some t)] 65)).alloc (.cells #[.pointer (some ⟨8, 65, none⟩), .pointer (some ⟨w.heap.size, 0, none⟩), .int .u64 150] 92)).alloc (.cells #[.pointer (some ⟨8, 65, none⟩), .pointer (some ⟨w.heap.size, 0, none⟩), .int .u64 150] 92)).alloc (.cells #[(.pointer (some e))] 63)).setCell t (.pointer (some e))) := by
  have h1 := @run_callFunc_extern Tryz.prog 28 _ (fun args => ReflectliteValue.unpack (args.getD 0 (.tuple #[]))) Tryz.func28 (by kernel_rfl) (by kernel_rfl) (by kernel_rfl) (by kernel_rfl)
  have h2 := @run_callFunc_extern Tryz.prog 29 _ (ReflectliteValue.methodAny (ReflectliteValue.valueError "reflectlite.Value.Type" 0) (fun t _ _ _ => ReflectliteType.toType t)) Tryz.func29 (by kernel_rfl) (by kernel_rfl) (by kernel_rfl) (by kernel_rfl)
  have h3 := @run_callFunc_extern Tryz.prog 30 _ (ReflectliteValue.method (ReflectliteValue.valueError "reflectlite.Value.IsNil" 0) ReflectliteValue.isNil) Tryz.func30 (by kernel_rfl) (by kernel_rfl) (by kernel_rfl) (by kernel_rfl)
  have h4 := @run_callFunc_extern Tryz.prog 133 _ (ReflectliteType.abiMethod fun t => do pure (.int .u8 (← Rtype.kind t))) Tryz.func133 (by kernel_rfl) (by kernel_rfl) (by kernel_rfl) (by kernel_rfl)
  have h5 := @run_callFunc_extern Tryz.prog 145 _ (ReflectliteType.method ReflectliteType.elem) Tryz.func145 (by kernel_rfl) (by kernel_rfl) (by kernel_rfl) (by kernel_rfl)
  have h6 := @run_callFunc_extern Tryz.prog 146 _ (ReflectliteType.relation "Implements" ReflectliteType.implements_) Tryz.func146 (by kernel_rfl) (by kernel_rfl) (by kernel_rfl) (by kernel_rfl)
  have h7 := @run_callFunc_extern Tryz.prog 54 _ ReflectliteType.typeOf Tryz.func54 (by kernel_rfl) (by kernel_rfl) (by kernel_rfl) (by kernel_rfl)
  have h8 := @run_callFunc_extern Tryz.prog 143 _ (ReflectliteType.relation "AssignableTo" ReflectliteType.assignableTo) Tryz.func143 (by kernel_rfl) (by kernel_rfl) (by kernel_rfl) (by kernel_rfl)
  have h9 := @run_callFunc_extern Tryz.prog 55 _ (ReflectliteValue.method (ReflectliteValue.valueError "reflectlite.Value.Elem" 0) ReflectliteValue.elem) Tryz.func55 (by kernel_rfl) (by kernel_rfl) (by kernel_rfl) (by kernel_rfl)
  have h10 := @run_callFunc_extern Tryz.prog 56 _ ReflectliteValue.set Tryz.func56 (by kernel_rfl) (by kernel_rfl) (by kernel_rfl) (by kernel_rfl)
  have f1 := valTP
  have f2 := typTP
  have f3 := m_kind
  have f4 := m_elem
  have f5 := m_impl
  have f6 := m_asgn
  have f7 := kindTP
  have f8 := kindEP
  have f9 := elemTP
  have f10 := typeEP
  have f11 := asgnP
  have f12 := implP
  have f13 := valEP
  have n8 := isNilP ⟨w.heap.size, 0, none⟩ t ((w.alloc (.cells #[.pointer (some t)] 65)).alloc (.cells #[.pointer (some ⟨8, 65, none⟩), .pointer (some ⟨w.heap.size, 0, none⟩), .int .u64 150] 92)) (by simp)
  have hlt : 0 < w.heap.size := cell_lt' hg
  have hg2 : ((w.alloc (.cells #[.pointer (some t)] 65)).alloc (.cells #[.pointer (some ⟨8, 65, none⟩), .pointer (some ⟨w.heap.size, 0, none⟩), .int .u64 150] 92)).cell? ⟨0, 0, none⟩ = some (.iface 139 (.agg #[.pointer (some ⟨8, 28, none⟩)])) := by
    rw [World.cell?_alloc_lt _ _ ⟨0, 0, none⟩ (by simp <;> omega), World.cell?_alloc_lt _ _ ⟨0, 0, none⟩ hlt]; exact hg
  have htl : t.block < w.heap.size := cell_lt' ht0
  have el := elVP ⟨w.heap.size, 0, none⟩ t (((w.alloc (.cells #[.pointer (some t)] 65)).alloc (.cells #[.pointer (some ⟨8, 65, none⟩), .pointer (some ⟨w.heap.size, 0, none⟩), .int .u64 150] 92)).alloc (.cells #[.pointer (some ⟨8, 65, none⟩), .pointer (some ⟨w.heap.size, 0, none⟩), .int .u64 150] 92)) (by rw [World.cell?_alloc_lt _ _ ⟨w.heap.size, 0, none⟩ (by simp; omega), World.cell?_alloc_lt _ _ ⟨w.heap.size, 0, none⟩ (by simp)]; simp)
  have st := setP t ⟨w.heap.size + 1 + 1 + 1, 0, none⟩ e old ((((w.alloc (.cells #[.pointer (some t)] 65)).alloc (.cells #[.pointer (some ⟨8, 65, none⟩), .pointer (some ⟨w.heap.size, 0, none⟩), .int .u64 150] 92)).alloc (.cells #[.pointer (some ⟨8, 65, none⟩), .pointer (some ⟨w.heap.size, 0, none⟩), .int .u64 150] 92)).alloc (.cells #[(.pointer (some e))] 63))
    (by rw [World.cell?_alloc_at _ _ _ _ (by simp)]; rfl)
    (by rw [World.cell?_alloc_lt _ _ t (by simp; omega), World.cell?_alloc_lt _ _ t (by simp; omega), World.cell?_alloc_lt _ _ t (by simp; omega), World.cell?_alloc_lt _ _ t htl]; exact ht0)
    (by rw [World.frozen?_alloc_old _ _ t (by simp; omega), World.frozen?_alloc_old _ _ t (by simp; omega), World.frozen?_alloc_old _ _ t (by simp; omega), World.frozen?_alloc_old _ _ t (Nat.ne_of_lt htl)]; exact hf0)
  go_enter Tryz.func14, Tryz.ntmps14
  go_wp2
  refine wp_loop_rounds 1 ?_
  rw [rounds_succ]
  go_wp2
  go_ret
  exact ⟨rfl, rfl⟩
set_option maxRecDepth 100000 in
set_option maxHeartbeats 4000000 in
theorem as_hitN (e : Int) (t : Addr) (old : Value) (w : World) (hg : w.cell? ⟨0, 0, none⟩ = some (.iface 139 (.agg #[.pointer (some ⟨8, 28, none⟩)]))) (ht0 : w.cell? t = some old) (hf0 : w.frozen? t = false) :
    Calls Tryz.prog 14 #[.iface 51 (.int .i64 e), .iface 70 (.pointer (some t))] w fun ev w' => ev = .returned (.bool true) ∧ w' = (((((w.alloc (.cells #[.pointer (some t)] 70)).alloc (.cells #[.pointer (some ⟨8, 70, none⟩), .pointer (some ⟨w.heap.size, 0, none⟩), .int .u64 150] 92)).alloc (.cells #[.pointer (some ⟨8, 70, none⟩), .pointer (some ⟨w.heap.size, 0, none⟩), .int .u64 150] 92)).alloc (.cells #[(.int .i64 e)] 51)).setCell t (.int .i64 e)) := by
  have h1 := @run_callFunc_extern Tryz.prog 28 _ (fun args => ReflectliteValue.unpack (args.getD 0 (.tuple #[]))) Tryz.func28 (by kernel_rfl) (by kernel_rfl) (by kernel_rfl) (by kernel_rfl)
  have h2 := @run_callFunc_extern Tryz.prog 29 _ (ReflectliteValue.methodAny (ReflectliteValue.valueError "reflectlite.Value.Type" 0) (fun t _ _ _ => ReflectliteType.toType t)) Tryz.func29 (by kernel_rfl) (by kernel_rfl) (by kernel_rfl) (by kernel_rfl)
  have h3 := @run_callFunc_extern Tryz.prog 30 _ (ReflectliteValue.method (ReflectliteValue.valueError "reflectlite.Value.IsNil" 0) ReflectliteValue.isNil) Tryz.func30 (by kernel_rfl) (by kernel_rfl) (by kernel_rfl) (by kernel_rfl)
  have h4 := @run_callFunc_extern Tryz.prog 133 _ (ReflectliteType.abiMethod fun t => do pure (.int .u8 (← Rtype.kind t))) Tryz.func133 (by kernel_rfl) (by kernel_rfl) (by kernel_rfl) (by kernel_rfl)
  have h5 := @run_callFunc_extern Tryz.prog 145 _ (ReflectliteType.method ReflectliteType.elem) Tryz.func145 (by kernel_rfl) (by kernel_rfl) (by kernel_rfl) (by kernel_rfl)
  have h6 := @run_callFunc_extern Tryz.prog 146 _ (ReflectliteType.relation "Implements" ReflectliteType.implements_) Tryz.func146 (by kernel_rfl) (by kernel_rfl) (by kernel_rfl) (by kernel_rfl)
  have h7 := @run_callFunc_extern Tryz.prog 54 _ ReflectliteType.typeOf Tryz.func54 (by kernel_rfl) (by kernel_rfl) (by kernel_rfl) (by kernel_rfl)
  have h8 := @run_callFunc_extern Tryz.prog 143 _ (ReflectliteType.relation "AssignableTo" ReflectliteType.assignableTo) Tryz.func143 (by kernel_rfl) (by kernel_rfl) (by kernel_rfl) (by kernel_rfl)
  have h9 := @run_callFunc_extern Tryz.prog 55 _ (ReflectliteValue.method (ReflectliteValue.valueError "reflectlite.Value.Elem" 0) ReflectliteValue.elem) Tryz.func55 (by kernel_rfl) (by kernel_rfl) (by kernel_rfl) (by kernel_rfl)
  have h10 := @run_callFunc_extern Tryz.prog 56 _ ReflectliteValue.set Tryz.func56 (by kernel_rfl) (by kernel_rfl) (by kernel_rfl) (by kernel_rfl)
  have f1 := valTN
  have f2 := typTN
  have f3 := m_kind
  have f4 := m_elem
  have f5 := m_impl
  have f6 := m_asgn
  have f7 := kindTN
  have f8 := kindEN
  have f9 := elemTN
  have f10 := typeEN
  have f11 := asgnN
  have f12 := implN
  have f13 := valEN
  have n8 := isNilN ⟨w.heap.size, 0, none⟩ t ((w.alloc (.cells #[.pointer (some t)] 70)).alloc (.cells #[.pointer (some ⟨8, 70, none⟩), .pointer (some ⟨w.heap.size, 0, none⟩), .int .u64 150] 92)) (by simp)
  have hlt : 0 < w.heap.size := cell_lt' hg
  have hg2 : ((w.alloc (.cells #[.pointer (some t)] 70)).alloc (.cells #[.pointer (some ⟨8, 70, none⟩), .pointer (some ⟨w.heap.size, 0, none⟩), .int .u64 150] 92)).cell? ⟨0, 0, none⟩ = some (.iface 139 (.agg #[.pointer (some ⟨8, 28, none⟩)])) := by
    rw [World.cell?_alloc_lt _ _ ⟨0, 0, none⟩ (by simp <;> omega), World.cell?_alloc_lt _ _ ⟨0, 0, none⟩ hlt]; exact hg
  have htl : t.block < w.heap.size := cell_lt' ht0
  have el := elVN ⟨w.heap.size, 0, none⟩ t (((w.alloc (.cells #[.pointer (some t)] 70)).alloc (.cells #[.pointer (some ⟨8, 70, none⟩), .pointer (some ⟨w.heap.size, 0, none⟩), .int .u64 150] 92)).alloc (.cells #[.pointer (some ⟨8, 70, none⟩), .pointer (some ⟨w.heap.size, 0, none⟩), .int .u64 150] 92)) (by rw [World.cell?_alloc_lt _ _ ⟨w.heap.size, 0, none⟩ (by simp; omega), World.cell?_alloc_lt _ _ ⟨w.heap.size, 0, none⟩ (by simp)]; simp)
  have st := setN t ⟨w.heap.size + 1 + 1 + 1, 0, none⟩ e old ((((w.alloc (.cells #[.pointer (some t)] 70)).alloc (.cells #[.pointer (some ⟨8, 70, none⟩), .pointer (some ⟨w.heap.size, 0, none⟩), .int .u64 150] 92)).alloc (.cells #[.pointer (some ⟨8, 70, none⟩), .pointer (some ⟨w.heap.size, 0, none⟩), .int .u64 150] 92)).alloc (.cells #[(.int .i64 e)] 51))
    (by rw [World.cell?_alloc_at _ _ _ _ (by simp)]; rfl)
    (by rw [World.cell?_alloc_lt _ _ t (by simp; omega), World.cell?_alloc_lt _ _ t (by simp; omega), World.cell?_alloc_lt _ _ t (by simp; omega), World.cell?_alloc_lt _ _ t htl]; exact ht0)
    (by rw [World.frozen?_alloc_old _ _ t (by simp; omega), World.frozen?_alloc_old _ _ t (by simp; omega), World.frozen?_alloc_old _ _ t (by simp; omega), World.frozen?_alloc_old _ _ t (Nat.ne_of_lt htl)]; exact hf0)
  go_enter Tryz.func14, Tryz.ntmps14
  go_wp2
  refine wp_loop_rounds 1 ?_
  rw [rounds_succ]
  go_wp2
  go_ret
  exact ⟨rfl, rfl⟩
end Go.Proofs.YtiiplikmoodfnaaGreatDoor
/-
  Assemble.
-/
namespace Go.Proofs.YtiiplikmoodfnaaGreatDoor
open Go.RowKit Go.Sort

/-- what Assemble leaves of a text that is short enough -/
def AsmPost (W : World) (l : List UInt8) (e : Ending) (w' : World) : Prop :=
  (∃ v E, e = .returned (.tuple #[.slice none 0 0, v]) ∧ linesA (splitN l) (splitN l).length = .error E ∧ ErrAt w' v E.1 E.2.1 E.2.2 ∧ Go.RowKit.Below W.heap.size W w') ∨
  (∃ M B line a Ps vl vn vm vj W3, linesA (splitN l) (splitN l).length = .ok a ∧ ASt W3 M B line a Ps vl vn vm vj ∧ W.heap.size = B ∧ Go.RowKit.Below W.heap.size W w' ∧ LibPost W3 M B a Ps vl e w')
theorem fra_below {W0 W W' : World} {M B : Nat} (hb : Go.RowKit.Below W0.heap.size W0 W) (h : FrA M B W W') (hB : B = W0.heap.size) (hM : B < M) : Go.RowKit.Below W0.heap.size W0 W' :=
  ⟨h.os.trans hb.os, h.tape.trans hb.tape, h.output.trans hb.output, Nat.le_trans hb.size h.size, fun k hk => (h.block k (by omega) (by omega)).trans (hb.block k hk)⟩
theorem LibPost.fr {W w' : World} {M B : Nat} {a : As} {Ps : List Pr} {vl : Value} {e : Ending} (h : LibPost W M B a Ps vl e w') (hM : M ≤ W.heap.size) : FrA M B W w' ∧ ∃ x y, e = .returned (.tuple #[x, y]) := by
  rcases h with ⟨v, h1, _, _, h2⟩ | ⟨v, h1, _, _, _, h2⟩ | ⟨h1, _, _, h2⟩
  · exact ⟨h2, _, _, h1⟩
  · exact ⟨h2, _, _, h1⟩
  · exact ⟨FrA.bel h2 hM, _, _, h1⟩
def ErrVar (W : World) : Prop := W.cell? ⟨0, 0, none⟩ = some (.iface 139 (.agg #[.pointer (some ⟨8, 28, none⟩)]))
theorem ErrVar.fra {M B : Nat} {W W' : World} (h : ErrVar W) (hb : FrA M B W W') (hB : B < M) (hg : 8 ≤ B) : ErrVar W' := by
  have h2 := hb.block 0 (by omega) (by omega)
  unfold ErrVar at h ⊢
  simp only [World.cell?] at h ⊢
  rw [h2]
  exact h
theorem linesA_ok {ls : List (List Wd)} {i : Nat} {a : As} {ws : List Wd} (h : linesA ls i = .ok a) (hw : ls[i]? = some ws) : linesA ls (i + 1) = lineA a (i + 1) ws := by
  rw [linesA, h]
  simp only
  rw [List.getD_eq_getElem?_getD, hw]
  rfl
set_option maxRecDepth 100000 in
set_option maxHeartbeats 4000000 in
theorem assemble_any (w : World) (l : List UInt8) (hl : l.length ≤ 65536) (hv : NumVars w) (hn : NmAt w) (hkw : KwAt w) (he : ErrVar w) (hB : 8 ≤ w.heap.size) :
    Calls Tryz.prog 5 #[.string (S l)] w fun e w' => AsmPost w l e w' := by
  have hsz : (S l).size = l.length := S_size l
  obtain ⟨w1, hw1⟩ : ∃ w1, w1 = w.alloc (.cells #[.int .i64 0, .slice none 0 0, .slice none 0 0, .bool false, .int .i64 0, .int .i64 0, .map none, .slice none 0 0] 58) := ⟨_, rfl⟩
  have hb1 : Go.RowKit.Below w.heap.size w w1 := by rw [hw1]; exact bel_al _ _
  have hAB1 : AB w1 w.heap.size 0 (.slice none 0 0) (.slice none 0 0) false 0 0 (.map none) (.slice none 0 0) := by rw [hw1]; exact heap_alloc_new _ _ rfl
  have hs1 : w1.heap.size = w.heap.size + 1 := by rw [hw1]; simp
  have HSp := hidA (split_any w1 l hl)
  have HV := hidA hv
  have HN := hidA hn
  have HK := hidA hkw
  have HEv := hidA he
  have HB1 := hidA hb1
  have HAB1 := hidA hAB1
  clear hv hn hkw he hb1 hAB1
  go_enter Tryz.func5, Tryz.ntmps5
  go_upto_region 4 with fail
  rw [← hw1]
  clear hw1
  go_wp2_with fail
  refine HSp.out.mono ?_
  rintro e w2 ⟨sa, sc, N, vals, rfl, hrow, hlns, hb2⟩
  have HRow := hidA hrow
  have HLns := hidA hlns
  have HB2 := hidA hb2
  obtain ⟨B, hBd⟩ : ∃ B, B = w.heap.size := ⟨_, rfl⟩
  have HBd := hidA hBd
  obtain ⟨M, hMd⟩ : ∃ M, M = w2.heap.size := ⟨_, rfl⟩
  have hBM : B < M := by have := hb2.size; omega
  have hBg : 8 ≤ B := by omega
  have HMd := hidA hMd
  obtain ⟨ls, hls⟩ : ∃ ls, ls = splitN l := ⟨_, rfl⟩
  have HLs := hidA hls
  obtain ⟨n, hnd⟩ : ∃ n, n = ls.length := ⟨_, rfl⟩
  rw [← hls, ← hnd] at HRow
  rw [← hls] at HLns
  have HNd := hidA hnd
  have hn1 : n ≤ 65537 := by have := split_few l; rw [← hls] at this; omega
  have HSm : Hid (∀ ws ∈ ls, SmallW ws ∧ ∀ y ∈ ws, y.1.length ≤ 65536) := by have h9 := split_small l hl; rw [← hls] at h9; exact h9
  rw [← hls, ← hnd, ← hBd]
  have HA0 : Hid (ASt w2 M B 0 start0 [] (.slice none 0 0) (.slice none 0 0) (.map none) (.slice none 0 0)) := ASt.start (by rw [hBd]; exact (hb2.block _ HAB1.out.lt).trans HAB1.out) hBM (by omega)
  have HBW : Hid (Go.RowKit.Below w.heap.size w w2) := HB1.out.trans (hb2.mono HB1.out.size)
  have hF0 : FrA M B w2 w2 := FrA.refl _ _ _
  have HF0 := hidA hF0
  have hs1' : w1.heap.size = B + 1 := by omega
  have HS1 := hidA hs1'
  clear hrow hlns hb2 HSp HAB1 HB1 hls hnd hMd hBd hs1 hs1' hF0 hsz
  go_wp2_with fail
  go_loopw [16] (fun y wr => ∃ (i : Nat) (a : As) (Ps : List Pr) (l0 : Nat) (vl vn vm vj : Value), i ≤ n ∧ y = .int .i64 (i : Int) ∧ Hid (linesA ls i = .ok a ∧ AsSz a i) ∧ Hid (ASt wr M B l0 a Ps vl vn vm vj) ∧ Hid (FrA M B w2 wr)) (fun y _ => n - (intOf y).toNat)
  case atStart => exact ⟨0, start0, [], 0, _, _, _, _, Nat.zero_le _, rfl, ⟨rfl, start_sz⟩, HA0, HF0⟩
  case round =>
    clear HA0 HF0
    obtain ⟨i, a, Ps, l0, vl, vn, vm, vj, hi, rfl, HLi, HA, HF⟩ := hrel
    have hMr : M ≤ wr.heap.size := HA.out.bm.2
    by_cases hlt : i < n
    · have hil : i < ls.length := by have := HNd.out; omega
      obtain ⟨ws, hws⟩ : ∃ ws, ls[i]? = some ws := ⟨_, List.getElem?_eq_getElem hil⟩
      obtain ⟨v0, hv0⟩ : ∃ v, vals[i]? = some v := ⟨_, List.getElem?_eq_getElem (by have := HLns.out.1; omega)⟩
      have hln := HLns.out.2 i v0 ws hv0 hws
      have HSw : Hid (SmallW ws ∧ ∀ y ∈ ws, y.1.length ≤ 65536) := HSm.out ws (List.mem_of_getElem? hws)
      obtain ⟨wo, wc, rfl, hwo⟩ := own_slice hln.1
      obtain ⟨sg, sc', e1, _⟩ := own_some HRow.out (by omega)
      simp only [Value.slice.injEq] at e1
      obtain ⟨rfl, -, -⟩ := e1
      have hs1 := HS1.out
      have hMd := HMd.out
      have hsg := World.ownsRow.lt HRow.out sg rfl
      have c0 : wr.cell? ⟨sg, i, none⟩ = some (.slice wo ws.length wc) := by
        have h5 : w2.cell? ⟨sg, i, none⟩ = some (.slice wo ws.length wc) := by rw [World.ownsRow.cellAt HRow.out i (by omega)]; exact hv0
        simp only [World.cell?] at h5 ⊢
        rw [HF.out.block sg (by omega) (by omega)]
        exact h5
      have hca : CellsAt wr wo (wcs ws) := by
        rcases own_at hln.1 with h9 | ⟨g, cap, e2, hc⟩
        · exact .inl h9
        · simp only [Value.slice.injEq] at e2
          refine .inr ⟨g, 0, e2.1, fun j u hu => ?_⟩
          have h9 := hwo.2.2 _ e2.1
          have h10 : w1.heap.size + 1 ≤ g ∧ g < w2.heap.size := h9.2
          have h5 := hc j u hu
          simp only [World.cell?] at h5 ⊢
          rw [HF.out.block g (by omega) (by omega)]
          exact h5
      have HFw : Hid (∀ W', FrA M B w2 W' → NumVars W' ∧ NmAt W' ∧ KwAt W' ∧ ErrVar W') := fun W' hf => by
        have hfb : FrA (B + 1) B w W' := ⟨hf.os.trans HBW.out.os, hf.tape.trans HBW.out.tape, hf.output.trans HBW.out.output, Nat.le_trans HBW.out.size hf.size, fun k hk hne => (hf.block k (by omega) hne).trans (HBW.out.block k (by have := HBd.out; omega))⟩
        exact ⟨HV.out.fra hfb (by omega) hBg, HN.out.fra hfb (by omega) hBg, HK.out.fra hfb (by omega) hBg, HEv.out.fra hfb (by omega) hBg⟩
      obtain ⟨hvr, hnr, hkr, _⟩ := HFw.out wr HF.out
      have HRd : Hid (Calls Tryz.prog 13 #[.pointer (some ⟨B, 0, none⟩), .int .i64 ((i : Int) + 1), .slice wo ws.length wc] wr fun e w' => ReadPost wr M B (i + 1) (lineA a (i + 1) ws) e w') :=
        readA_any wr M B l0 i (i + 1) a Ps vl vn vm vj wo wc ws HA.out HLi.out.2 hca hwo.2.1 (fun ad e2 _ => by have h9 := (hwo.2.2 ad e2).2; have h10 : w1.heap.size + 1 ≤ ad.block ∧ ad.block < w2.heap.size := h9; exact ⟨by omega, by omega⟩) HSw.out.1 HSw.out.2 hvr hnr hkr hBg
      have HL1 : Hid (linesA ls (i + 1) = lineA a (i + 1) ws) := linesA_ok HLi.out.1 hws
      have hwl : ws.length ≤ 1000000 := HSw.out.1.2
      generalize ws.length = wl at *
      clear hwo hca hvr hnr hkr hln hv0 hsg hs1 hMd
      go_wp2_with fail
      refine HRd.out.mono ?_
      rintro e w3 (⟨v, ⟨E1, col, nz⟩, rfl, h1, h2, h3⟩ | ⟨l1, a', Ps', vl', vn', vm', vj', rfl, h1, h2, h3⟩)
      · have HL : Hid (linesA (splitN l) (splitN l).length = .error (E1, col, nz)) := by show _ = _; rw [← HLs.out, ← HNd.out]; exact linesA_up (i := i + 1) (HL1.out.trans h2) n (by omega)
        obtain ⟨b, ln, rfl, hhb, hcs⟩ : ∃ (b ln : Nat), v = .iface 63 (.pointer (some ⟨b, 0, none⟩)) ∧ w3.heap[b]? = some (.cells #[.int .i64 (ln : Int), .int .i64 (col : Int), .iface 51 (.int .i64 nz)] 67 (0, 0)) ∧ ((ln = 0 ∧ E1 = i + 1) ∨ (ln ≠ 0 ∧ E1 = ln)) := by
          rcases h1 with ⟨⟨b, e1, e2⟩, e3⟩ | ⟨e3, b, e1, e2⟩
          · exact ⟨b, 0, e1, e2, .inl ⟨rfl, e3⟩⟩
          · exact ⟨b, E1, e1, e2, .inr ⟨e3, rfl⟩⟩
        have hbl := (Array.getElem?_eq_some_iff.1 hhb).1
        have hM3 : M ≤ w3.heap.size := Nat.le_trans hMr h3.size
        have HF3 : Hid (FrA M B w2 w3) := HF.out.trans h3
        have hEv : ErrVar (w3.alloc (.cells #[.pointer none] 63)) := (HFw.out _ (HF3.out.trans (FrA.bel (bel_al w3 _) hM3))).2.2.2
        have hn4 : (w3.alloc (.cells #[.pointer none] 63)).heap[w3.heap.size]? = some (.cells #[.pointer none] 63 (0, 0)) := heap_alloc_new _ _ rfl
        have HAs := hidA (as_hitP ⟨b, 0, none⟩ ⟨w3.heap.size, 0, none⟩ (.pointer none) (w3.alloc (.cells #[.pointer none] 63)) hEv (by unfold World.cell?; rw [hn4]; rfl) (frozen_of_row _ _ 0 _ _ hn4))
        have HN4 := hidA hn4
        have HHb := hidA hhb
        have HCs := hidA hcs
        clear h1 h2 h3 hEv hn4 hhb hcs HRd HA HF HL1 c0
        go_wp2_with fail
        refine HAs.out.mono ?_
        rintro e w5 ⟨rfl, hw5⟩
        have hB5 : Go.RowKit.Below w3.heap.size w3 w5 := by rw [hw5]; exact (((((bel_al w3 _).alloc (by simp only [World.size_alloc]; omega) _).alloc (by simp only [World.size_alloc]; omega) _).alloc (by simp only [World.size_alloc]; omega) _).alloc (by simp only [World.size_alloc]; omega) _).trans (below_setC _ _ (Nat.le_refl _))
        have hh5 := (hB5.block b hbl).trans HHb.out
        have ht5 : w5.heap[w3.heap.size]? = some (.cells #[.pointer (some ⟨b, 0, none⟩)] 63 (0, 0)) := by
          rw [hw5]
          exact heap_setCell_same _ w3.heap.size 0 _ _ _ ((heap_alloc_old _ _ (by simp only [World.size_alloc]; omega)).trans ((heap_alloc_old _ _ (by simp only [World.size_alloc]; omega)).trans ((heap_alloc_old _ _ (by simp only [World.size_alloc]; omega)).trans ((heap_alloc_old _ _ (by simp only [World.size_alloc]; omega)).trans HN4.out))))
        have HF5 : Hid (FrA M B w2 w5) := HF3.out.trans (FrA.bel hB5 hM3)
        have hM5 : M ≤ w5.heap.size := Nat.le_trans hM3 hB5.size
        have y0 : w5.cell? ⟨w3.heap.size, 0, none⟩ = some (.pointer (some ⟨b, 0, none⟩)) := by simp [World.cell?, ht5]
        have y1 : w5.cell? ⟨b, 0, none⟩ = some (.int .i64 (ln : Int)) := by simp [World.cell?, hh5]
        have y2 : w5.cell? ⟨b, 1, none⟩ = some (.int .i64 (col : Int)) := by simp [World.cell?, hh5]
        have y3 : w5.cell? ⟨b, 2, none⟩ = some (.iface 51 (.int .i64 nz)) := by simp [World.cell?, hh5]
        have HHh := hidA hh5
        clear hw5 hB5 hh5 ht5 HAs HN4 HHb hbl hM3
        generalize w3.heap.size = tb at *
        rcases HCs.out with ⟨rfl, rfl⟩ | ⟨hne, rfl⟩
        · rw [show ((0 : Nat) : Int) = 0 from rfl] at y1
          have HS5 : Hid (∀ W', Go.RowKit.Below w5.heap.size w5 W' → W'.cell? ⟨tb, 0, none⟩ = some (.pointer (some ⟨b, 0, none⟩)) ∧ W'.cell? ⟨b, 1, none⟩ = some (.int .i64 (col : Int)) ∧ W'.cell? ⟨b, 2, none⟩ = some (.iface 51 (.int .i64 nz))) := fun W' hb => ⟨(hb.cell (p := ⟨tb, 0, none⟩) (cell_lt y0)).trans y0, (hb.cell (p := ⟨b, 1, none⟩) (cell_lt y2)).trans y2, (hb.cell (p := ⟨b, 2, none⟩) (cell_lt y3)).trans y3⟩
          have HWr : Hid (∀ W', Go.RowKit.Below w5.heap.size w5 W' → Calls Tryz.prog 15 #[.agg #[.int .i64 ((i : Int) + 1), .int .i64 (col : Int)], .iface 51 (.int .i64 nz)] W' fun e w' => ∃ v, e = .returned v ∧ Hid ((∃ p, v = .iface 63 p) ∧ AsmPost w l (.returned (.tuple #[.slice none 0 0, v])) w') ∧ (w'.cell? ⟨tb, 0, none⟩ = some (.pointer (some ⟨b, 0, none⟩)) ∧ w'.cell? ⟨b, 1, none⟩ = some (.int .i64 (col : Int)) ∧ w'.cell? ⟨b, 2, none⟩ = some (.iface 51 (.int .i64 nz)))) := fun W' hb =>
            (wrongAt_any W' (i + 1) col nz).mono (fun e w' ⟨v, h1, h2, h3⟩ => by
              have hb' := hb.trans (h3.mono hb.size)
              exact ⟨v, h1, ⟨err_iface h2, .inl ⟨v, _, rfl, HL.out, h2, fra_below HBW.out (HF5.out.trans (FrA.bel hb' hM5)) HBd.out hBM⟩⟩, HS5.out w' hb'⟩)
          have hbd : Go.RowKit.Below w5.heap.size w5 w5.drew := bel_drewN w5 1
          have hwrap : IntKind.i64.wrap ((i : Int) + 1) = (i : Int) + 1 := by rw [IntKind.wrap_i64]; omega
          go_upto_region 10 with fail
          -- REGION10
          refine wp_region_held_drew (S := fun w' => w'.cell? ⟨tb, 0, none⟩ = some (.pointer (some ⟨b, 0, none⟩)) ∧ w'.cell? ⟨b, 1, none⟩ = some (.int .i64 (col : Int)) ∧ w'.cell? ⟨b, 2, none⟩ = some (.iface 51 (.int .i64 nz))) (by kernel_rfl) ?_ (fun hHeld => ?_)
          · exact HS5.out _ hbd
          refine wpAnyH_take (i := 0) (v := .int .i64 (i : Int)) rfl (by kernel_rfl) (by kernel_rfl) (by kernel_rfl) (fun _ _ _ h => h) (Or.inl ⟨by rfl, by intro w hSw; (try dsimp only at hSw); go_simp⟩) (by assumption) ?_
          refine wpAnyH_take (i := 1) (v := .int .i64 ((i : Int) + 1)) rfl (by kernel_rfl) (by kernel_rfl) (by kernel_rfl) (fun _ _ _ h => h) (Or.inl ⟨by rfl, by intro w hSw; (try dsimp only at hSw); go_simp⟩) (by assumption) ?_
          refine wpAnyH_take (i := 2) (v := .pointer (some ⟨b, 0, none⟩)) rfl (by kernel_rfl) (by kernel_rfl) (by kernel_rfl) (fun _ _ _ h => h) (Or.inl ⟨by rfl, by intro w hSw; (try dsimp only at hSw); go_simp⟩) (by assumption) ?_
          refine wpAnyH_take (i := 3) (v := .pointer (some ⟨b, 0, none⟩)) rfl (by kernel_rfl) (by kernel_rfl) (by kernel_rfl) (fun _ _ _ h => h) (Or.inl ⟨by rfl, by intro w hSw; (try dsimp only at hSw); go_simp⟩) (by assumption) ?_
          refine wpAnyH_take (i := 4) (v := .pointer (some ⟨b, 1, none⟩)) rfl (by kernel_rfl) (by kernel_rfl) (by kernel_rfl) (fun _ _ _ h => h) (Or.inl ⟨by rfl, by intro w hSw; (try dsimp only at hSw); go_simp⟩) (by assumption) ?_
          refine wpAnyH_take (i := 5) (v := .int .i64 (col : Int)) rfl (by kernel_rfl) (by kernel_rfl) (by kernel_rfl) (fun _ _ _ h => h) (Or.inl ⟨by rfl, by intro w hSw; (try dsimp only at hSw); go_simp⟩) (by assumption) ?_
          refine wpAnyH_take (i := 6) (v := .agg #[.int .i64 ((i : Int) + 1), .int .i64 (col : Int)]) rfl (by kernel_rfl) (by kernel_rfl) (by kernel_rfl) (fun _ _ _ h => h) (Or.inl ⟨by rfl, by intro w hSw; (try dsimp only at hSw); go_simp⟩) (by assumption) ?_
          refine wpAnyH_take (i := 7) (v := .pointer (some ⟨b, 0, none⟩)) rfl (by kernel_rfl) (by kernel_rfl) (by kernel_rfl) (fun _ _ _ h => h) (Or.inl ⟨by rfl, by intro w hSw; (try dsimp only at hSw); go_simp⟩) (by assumption) ?_
          refine wpAnyH_take (i := 8) (v := .pointer (some ⟨b, 0, none⟩)) rfl (by kernel_rfl) (by kernel_rfl) (by kernel_rfl) (fun _ _ _ h => h) (Or.inl ⟨by rfl, by intro w hSw; (try dsimp only at hSw); go_simp⟩) (by assumption) ?_
          refine wpAnyH_take (i := 9) (v := .pointer (some ⟨b, 2, none⟩)) rfl (by kernel_rfl) (by kernel_rfl) (by kernel_rfl) (fun _ _ _ h => h) (Or.inl ⟨by rfl, by intro w hSw; (try dsimp only at hSw); go_simp⟩) (by assumption) ?_
          refine wpAnyH_take (i := 10) (v := .iface 51 (.int .i64 nz)) rfl (by kernel_rfl) (by kernel_rfl) (by kernel_rfl) (fun _ _ _ h => h) (Or.inl ⟨by rfl, by intro w hSw; (try dsimp only at hSw); go_simp⟩) (by assumption) ?_
          refine wpAnyH_ready (rs := [11]) (by kernel_rfl) (by simp) ?_
          refine AllReadyH.cons rfl (fun K hK => ?_) ?_
          · go_simp
            refine (HWr.out _ hbd).mono ?_
            rintro e wb ⟨v9, rfl, HE, hS9⟩
            go_wp2_with fail
            refine hK.out _ _ (by exact hS9) (fun hHeld => ?_)
            clear hK K
            refine wpAnyH_ready (rs := [12]) (by kernel_rfl) (by simp) ?_
            refine AllReadyH.cons rfl (fun K hK => ?_) ?_
            · go_simp
              refine hK.out _ _ (by exact hS9) (fun hHeld => ?_)
              clear hK K
              refine wpAnyH_done (by kernel_rfl) ?_ _
              obtain ⟨p9, rfl⟩ := HE.out.1
              go_wp2_with fail
              go_ret2
              exact HE.out.2
            exact AllReadyH.nil
          exact AllReadyH.nil
          -- END10
        · have hne' : ((E1 : Int) == 0) = false := by simp; omega
          have HE : Hid (AsmPost w l (.returned (.tuple #[.slice none 0 0, .iface 63 (.pointer (some ⟨b, 0, none⟩))])) w5) := .inl ⟨_, _, rfl, HL.out, ⟨b, rfl, HHh.out⟩, fra_below HBW.out HF5.out HBd.out hBM⟩
          clear hne HCs
          go_wp2_with fail
          go_ret2
          exact HE.out
      · have HLi2 : Hid (linesA ls (i + 1) = .ok a' ∧ AsSz a' (i + 1)) := ⟨HL1.out.trans h1, line_sz HLi.out.2 (by omega) (by omega) HSw.out.2 h1⟩
        have hb4 := bel_al w3 (.cells #[.pointer none] 63)
        have HA4 := hidA (h2.below hb4)
        have HF4 : Hid (FrA M B w2 (w3.alloc (.cells #[.pointer none] 63))) := (HF.out.trans h3).trans (FrA.bel hb4 h2.bm.2)
        clear h1 h2 h3 hb4 HRd HA HF HL1 c0
        have HAs := hidA (as_nil (.iface 65 (.pointer (some ⟨w3.heap.size, 0, none⟩))) (w3.alloc (.cells #[.pointer none] 63)))
        go_upto_region 9 with fail
        generalize w3.alloc (.cells #[.pointer none] 63) = w4 at *
        go_wp2_with fail
        refine HAs.out.mono ?_
        rintro e w5 ⟨rfl, hw5⟩
        have hw5' := hw5.symm
        subst hw5'
        clear hw5 HAs
        go_wp2_with fail
        go_roundw
        case rel => exact ⟨i + 1, a', Ps', l1, vl', vn', vm', vj', by omega, by go_num, HLi2, HA4, HF4⟩
        case measure => simp [intOf]; omega
    · obtain rfl : i = n := by omega
      have HLb := hidA (library_any wr M B l0 i a Ps vl vn vm vj HA.out HLi.out.2)
      go_wp2_with fail
      refine HLb.out.mono ?_
      intro e w3 hp
      obtain ⟨hf, x, y, rfl⟩ := hp.fr hMr
      have HE : Hid (AsmPost w l (.returned (.tuple #[x, y])) w3) := .inr ⟨M, B, l0, a, Ps, vl, vn, vm, vj, wr, by rw [← HLs.out, ← HNd.out]; exact HLi.out.1, HA.out, HBd.out.symm, fra_below HBW.out (HF.out.trans hf) HBd.out hBM, hp⟩
      clear hp hf HLb
      go_wp2_with fail
      go_ret2
      exact HE.out
end Go.Proofs.YtiiplikmoodfnaaGreatDoor
