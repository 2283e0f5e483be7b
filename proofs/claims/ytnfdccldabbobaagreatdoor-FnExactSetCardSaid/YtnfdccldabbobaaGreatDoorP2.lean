/- Texts. -/
import Derived.Test.YtnfdccldabbobaaGreatDoorP1
import Derived.LaidEql
import Derived.Stop.Asserts
import Derived.RowKitTokens
set_option maxHeartbeats 8000000
set_option maxRecDepth 100000
namespace Go.Proofs.YtnfdccldabbobaaGreatDoor
open Go.RowKit Go.Proofs.Tryz
section
open Go.RowKit Go.Extern.Stop Go.Stop Go.Extern
def jR (w:World):Prop:=w.cell? ⟨0,0,none⟩=some (.iface 272 (.agg #[.pointer (some ⟨1,179,none⟩)]))
theorem jR.lt {w:World} (h:jR w):0<w.heap.size:=by
 unfold jR at h;rcases Nat.lt_or_ge 0 w.heap.size with h0 | h0
 ·exact h0
 ·simp [World.cell?,Array.getElem?_eq_none h0] at h
theorem jR.below {w w':World} {n:Nat} (h:jR w) (hb:Below n w w') (hn:0<n):jR w':=by
 unfold jR at h ⊢;rw [hb.cell (p:=⟨0,0,none⟩) hn];exact h
theorem jR.keep {w w':World} (h:jR w) (hb:qa w w'):jR w':=h.below hb h.lt
theorem Tryz.El (t:Addr) (w:World):(ReflectliteValue.unpack (.iface 203 (.pointer (some t)))).run prog w
  = .ok (.agg #[.pointer (some ⟨1,203,none⟩),.pointer (some ⟨w.heap.size,0,none⟩),.int .u64 150]) (w.alloc (.cells #[.pointer (some t)] 203)):=by kernel_rfl
theorem Tryz.qep (a : Addr) (w : World) : (ReflectliteValue.methodAny (ReflectliteValue.valueError "reflectlite.Value.Type" 0) (fun t _ _ _ => ReflectliteType.toType t) #[.agg #[.pointer (some ⟨1, 203, none⟩), .pointer (some a), .int .u64 150]]).run prog w
  = .ok (.iface 272 (.agg #[.pointer (some ⟨1,203,none⟩)])) w:=by kernel_rfl
theorem Tryz.FZ (h : Value) (w : World) : (Go.method 425 272 (.agg #[h]) "Kind").run prog w = .ok (237, h) w := by kernel_rfl
theorem Tryz.qeq (w:World):((ReflectliteType.abiMethod fun t=>(fun a:Nat=>Value.int IntKind.u8 (a:Int)) <$> Rtype.kind t) #[.pointer (some ⟨1,203,none⟩)]).run prog w=.ok (.int .u8 22) w:=by kernel_rfl
theorem Tryz.qer (w:World):((ReflectliteType.abiMethod fun t=>(fun a:Nat=>Value.int IntKind.u8 (a:Int)) <$> Rtype.kind t) #[.pointer (some ⟨1,201,none⟩)]).run prog w=.ok (.int .u8 25) w:=by kernel_rfl
theorem rlm (z:Sem Value) (f:TypeId→Addr→Nat→Nat→Sem Value) (v:Value):
  ReflectliteValue.method z f #[v]=(do match ← ReflectliteValue.parts v with | none=>z | some (t,a,fl)=>f t a fl (fl % 32)):=rfl
theorem Tryz.F3 (a:Addr) (w:World):(ReflectliteValue.parts (.agg #[.pointer (some ⟨1,203,none⟩),.pointer (some a),.int .u64 150])).run prog w=.ok (some (203,a,150)) w:=by kernel_rfl
theorem Tryz.qcp (a p:Addr) (W:World) (ha:W.cell? a=some (.pointer (some p))):
  (ReflectliteValue.method (ReflectliteValue.valueError "reflectlite.Value.IsNil" 0) ReflectliteValue.isNil #[.agg #[.pointer (some ⟨1, 203, none⟩), .pointer (some a), .int .u64 150]]).run prog W = .ok (.bool false) W := by
 rw [rlm];simp only [qdq,Tryz.F3,Result.andThen];simp [ReflectliteValue.isNil,loadVar,isAgg,underlying,underlying203,ha,Result.andThen]
theorem Tryz.F4 (h : Value) (w : World) : (Go.method 425 272 (.agg #[h]) "Elem").run prog w = .ok (248, .agg #[h]) w := by kernel_rfl
theorem Tryz.gF (h : Value) (w : World) : (Go.method 425 272 (.agg #[h]) "Implements").run prog w = .ok (249, .agg #[h]) w := by kernel_rfl
theorem Tryz.Ud (h : Value) (w : World) : (Go.method 425 272 (.agg #[h]) "AssignableTo").run prog w = .ok (246, .agg #[h]) w := by kernel_rfl
theorem Tryz.qes (w:World):(ReflectliteType.method ReflectliteType.elem #[.agg #[.pointer (some ⟨1,203,none⟩)]]).run prog w=.ok (.iface 272 (.agg #[.pointer (some ⟨1,201,none⟩)])) w:=by kernel_rfl
theorem Tryz.si (w : World) : (ReflectliteType.relation "Implements" ReflectliteType.implements_ #[.agg #[.pointer (some ⟨1, 201, none⟩)], .iface 272 (.agg #[.pointer (some ⟨1, 179, none⟩)])]).run prog w = .ok (.bool true) w := by kernel_rfl
theorem Tryz.qaF (v:Value) (w:World):(ReflectliteType.typeOf #[.iface 201 v]).run prog w=.ok (.iface 272 (.agg #[.pointer (some ⟨1,201,none⟩)])) w:=by kernel_rfl
theorem Tryz.sj (w : World) : (ReflectliteType.relation "AssignableTo" ReflectliteType.assignableTo #[.agg #[.pointer (some ⟨1, 201, none⟩)], .iface 272 (.agg #[.pointer (some ⟨1, 201, none⟩)])]).run prog w = .ok (.bool true) w := by kernel_rfl
theorem Tryz.Em (s:ByteArray) (w:World):(ReflectliteValue.unpack (.iface 201 (.agg #[.string s]))).run prog w
  = .ok (.agg #[.pointer (some ⟨1,201,none⟩),.pointer (some ⟨w.heap.size,0,none⟩),.int .u64 153]) (w.alloc (.cells #[.string s] 201)):=by kernel_rfl
theorem Tryz.qaG (w:World):(Rtype.elem? 203).run prog w=.ok (some 201) w:=by kernel_rfl
theorem Tryz.qh8 (p:Addr) (w:World):(ReflectliteValue.mk 201 p ReflectliteValue.flagAddr).run prog w=.ok (.agg #[.pointer (some ⟨1,201,none⟩),.pointer (some p),.int .u64 409]) w:=by kernel_rfl
theorem Tryz.qet (a p:Addr) (W:World) (ha:W.cell? a=some (.pointer (some p))):
  (ReflectliteValue.method (ReflectliteValue.valueError "reflectlite.Value.Elem" 0) ReflectliteValue.elem #[.agg #[.pointer (some ⟨1, 203, none⟩), .pointer (some a), .int .u64 150]]).run prog W
   = .ok (.agg #[.pointer (some ⟨1,201,none⟩),.pointer (some p),.int .u64 409]) W:=by
 rw [rlm];simp only [qdq,Tryz.F3,Result.andThen];simp [ReflectliteValue.elem,loadVar,isAgg,underlying,underlying203,ha,Result.andThen,Tryz.qaG,Tryz.qh8]
theorem rls (v x:Value):ReflectliteValue.set #[v,x]=(do
  let (some (dst,a,fl),some (src,b,_)):=(← ReflectliteValue.parts v,← ReflectliteValue.parts x)
   | unsupported (.noEntry "extern/(internal/reflectlite.Value).Set.zeroValue")
  if fl / ReflectliteValue.flagAddr % 2 == 0 then unsupported (.noEntry "extern/(internal/reflectlite.Value).Set.unaddressable")
  let val ← loadVar src b
  if ← Rtype.directlyAssignable dst src then storeVar dst a val
  else if ← Rtype.implements dst src then
   if (← Rtype.kind src) == 20 then
    match val with
    | .nilIface => unsupported (.noEntry "extern/reflectlite: a nil value of one interface type handed on as a value of another")
    | _=>storeVar dst a val
   else storeVar dst a (.iface src val)
  else panicString ("reflectlite.Set: value of type " ++ (← Rtype.spelt src) ++ " is not assignable to type " ++ (← Rtype.spelt dst))
  pure (.tuple #[])):=rfl
theorem Tryz.qaH (a:Addr) (w:World):(ReflectliteValue.parts (.agg #[.pointer (some ⟨1,201,none⟩),.pointer (some a),.int .u64 409])).run prog w=.ok (some (201,a,409)) w:=by kernel_rfl
theorem Tryz.qcq (a:Addr) (w:World):(ReflectliteValue.parts (.agg #[.pointer (some ⟨1,201,none⟩),.pointer (some a),.int .u64 153])).run prog w=.ok (some (201,a,153)) w:=by kernel_rfl
theorem Tryz.qaI (w:World):(Rtype.directlyAssignable 201 201).run prog w=.ok true w:=by kernel_rfl
theorem Tryz.qhk (ta b:Addr) (s:ByteArray) (old:Value) (W:World) (hb:W.cell? b=some (.string s)) (ht:W.cell? ta=some old) (hf:W.frozen? ta=false):
  (ReflectliteValue.set #[.agg #[.pointer (some ⟨1,201,none⟩),.pointer (some ta),.int .u64 409],.agg #[.pointer (some ⟨1,201,none⟩),.pointer (some b),.int .u64 153]]).run prog W
   = .ok (.tuple #[]) (W.setCell ta (.string s)):=by
 rw [rls];simp only [qdq,Tryz.qaH,Tryz.qcq,Result.andThen];simp [ReflectliteValue.flagAddr,loadVar,loadCells,loadCellsFrom,hb,Result.andThen,Tryz.qaI,storeVar,Value.cells,storeCells,Addr.add];rw [run_store prog W ta _ _ (by rfl)];simp [ht,hf]
theorem qhl (t:Value) (w:World):Calls prog 158 #[.nilIface,t] w fun e w'=>e=.returned (.bool false)∧w'=w:=by
 go_enter func158,ntmps158;go_wp2;go_ret;exact ⟨rfl,rfl⟩
theorem qhm (s:ByteArray) (t:Addr) (old:Value) (w:World) (hg:w.cell? ⟨0,0,none⟩=some (.iface 272 (.agg #[.pointer (some ⟨1,179,none⟩)]))) (ht0:w.cell? t=some old) (hf0:w.frozen? t=false):
  Calls prog 158 #[.iface 201 (.agg #[.string s]),.iface 203 (.pointer (some t))] w fun ev w'=>ev=.returned (.bool true)∧w'=((((w.alloc (.cells #[.pointer (some t)] 203)).alloc (.cells #[.pointer (some ⟨1,203,none⟩),.pointer (some ⟨w.heap.size,0,none⟩),.int .u64 150] 226)).alloc (.cells #[.pointer (some ⟨1,203,none⟩),.pointer (some ⟨w.heap.size,0,none⟩),.int .u64 150] 226)).alloc (.cells #[.string s] 201)).setCell t (.string s):=by
 have h6:=@run_callFunc_extern prog 179 _ (fun args=>ReflectliteValue.unpack (args.getD 0 (.tuple #[]))) func179 (by kernel_rfl) (by kernel_rfl) (by kernel_rfl) (by kernel_rfl);have h7 := @run_callFunc_extern prog 180 _ (ReflectliteValue.methodAny (ReflectliteValue.valueError "reflectlite.Value.Type" 0) (fun t _ _ _ => ReflectliteType.toType t)) func180 (by kernel_rfl) (by kernel_rfl) (by kernel_rfl) (by kernel_rfl);have h8 := @run_callFunc_extern prog 181 _ (ReflectliteValue.method (ReflectliteValue.valueError "reflectlite.Value.IsNil" 0) ReflectliteValue.isNil) func181 (by kernel_rfl) (by kernel_rfl) (by kernel_rfl) (by kernel_rfl);have h27:=@run_callFunc_extern prog 237 _ (ReflectliteType.abiMethod fun t=>do pure (.int .u8 (← Rtype.kind t))) func237 (by kernel_rfl) (by kernel_rfl) (by kernel_rfl) (by kernel_rfl);have h37:=@run_callFunc_extern prog 248 _ (ReflectliteType.method ReflectliteType.elem) func248 (by kernel_rfl) (by kernel_rfl) (by kernel_rfl) (by kernel_rfl);have h38 := @run_callFunc_extern prog 249 _ (ReflectliteType.relation "Implements" ReflectliteType.implements_) func249 (by kernel_rfl) (by kernel_rfl) (by kernel_rfl) (by kernel_rfl);have h10:=@run_callFunc_extern prog 209 _ ReflectliteType.typeOf func209 (by kernel_rfl) (by kernel_rfl) (by kernel_rfl) (by kernel_rfl);have h35 := @run_callFunc_extern prog 246 _ (ReflectliteType.relation "AssignableTo" ReflectliteType.assignableTo) func246 (by kernel_rfl) (by kernel_rfl) (by kernel_rfl) (by kernel_rfl);have h11 := @run_callFunc_extern prog 210 _ (ReflectliteValue.method (ReflectliteValue.valueError "reflectlite.Value.Elem" 0) ReflectliteValue.elem) func210 (by kernel_rfl) (by kernel_rfl) (by kernel_rfl) (by kernel_rfl);have h12:=@run_callFunc_extern prog 211 _ ReflectliteValue.set func211 (by kernel_rfl) (by kernel_rfl) (by kernel_rfl) (by kernel_rfl);have tO:=Tryz.qaF;have mA:=Tryz.Ud;have a25:=Tryz.sj;have v25:=Tryz.Em;have f6:=Tryz.El;have f7:=Tryz.qep;have mK:=Tryz.FZ;have mE:=Tryz.F4;have mI:=Tryz.gF;have k27:=Tryz.qeq;have k25:=Tryz.qer;have e27:=Tryz.qes;have i25:=Tryz.si;have n8:=Tryz.qcp ⟨w.heap.size,0,none⟩ t ((w.alloc (.cells #[.pointer (some t)] 203)).alloc (.cells #[.pointer (some ⟨1,203,none⟩),.pointer (some ⟨w.heap.size,0,none⟩),.int .u64 150] 226)) (by simp);have hlt:0<w.heap.size:=by
  rcases Nat.lt_or_ge 0 w.heap.size with h0 | h0
  ·exact h0
  ·simp [World.cell?,Array.getElem?_eq_none h0] at hg
 have hg2:((w.alloc (.cells #[.pointer (some t)] 203)).alloc (.cells #[.pointer (some ⟨1,203,none⟩),.pointer (some ⟨w.heap.size,0,none⟩),.int .u64 150] 226)).cell? ⟨0,0,none⟩=some (.iface 272 (.agg #[.pointer (some ⟨1,179,none⟩)])):=by
  rw [qfM _ _ ⟨0,0,none⟩ (qe2 hlt (by simp)),qfM _ _ ⟨0,0,none⟩ hlt];exact hg
 have htl:t.block<w.heap.size:=by
  rcases Nat.lt_or_ge t.block w.heap.size with h | h
  ·exact h
  ·simp [World.cell?,Array.getElem?_eq_none h] at ht0
 have el:=Tryz.qet ⟨w.heap.size,0,none⟩ t (((w.alloc (.cells #[.pointer (some t)] 203)).alloc (.cells #[.pointer (some ⟨1,203,none⟩),.pointer (some ⟨w.heap.size,0,none⟩),.int .u64 150] 226)).alloc (.cells #[.pointer (some ⟨1,203,none⟩),.pointer (some ⟨w.heap.size,0,none⟩),.int .u64 150] 226)) (by rw [qfM _ _ ⟨w.heap.size,0,none⟩ (by simp;omega)];simp);have st:=Tryz.qhk t ⟨w.heap.size+1+1+1,0,none⟩ s old ((((w.alloc (.cells #[.pointer (some t)] 203)).alloc (.cells #[.pointer (some ⟨1,203,none⟩),.pointer (some ⟨w.heap.size,0,none⟩),.int .u64 150] 226)).alloc (.cells #[.pointer (some ⟨1,203,none⟩),.pointer (some ⟨w.heap.size,0,none⟩),.int .u64 150] 226)).alloc (.cells #[.string s] 201))
  (by rw [World.cell?_alloc_at _ _ _ _ (by simp)];rfl)
  (by rw [qfM _ _ t (by simp;omega),qfM _ _ t (by simp;omega),qfM _ _ t (by simp;omega),qfM _ _ t htl];exact ht0)
  (by rw [World.frozen?_alloc_old _ _ t (by simp;omega),World.frozen?_alloc_old _ _ t (by simp;omega),World.frozen?_alloc_old _ _ t (by simp;omega),World.frozen?_alloc_old _ _ t (Nat.ne_of_lt htl)];exact hf0)
 go_enter func158,ntmps158;go_wp2;refine qdp 1 ?_;rw [qdC];go_wp2;go_ret;exact ⟨rfl,rfl⟩
theorem qb1 (w:World):Calls prog 128 #[.nilIface] w fun e w'=>e=.returned (.bool false)∧qa w w':=by
 go_enter func128,ntmps128;go_wp2_with fail;refine (qhl _ _).mono ?_;rintro e w' ⟨rfl,rfl⟩;go_wp2;go_ret;exact ⟨rfl,(qab _ _).alloc qg _⟩
theorem qb2 (s:ByteArray) (w:World) (hg:jR w):Calls prog 128 #[.iface 201 (.agg #[.string s])] w fun e w'=>e=.returned (.bool true)∧qa w w':=by
 have hgA:jR (w.alloc (.cells #[.string ⟨#[]⟩] 201)):=hg.keep ((qab _ _).alloc qg _);go_enter func128,ntmps128;go_wp2_with fail;refine (qhm s ⟨w.heap.size,0,none⟩ (.string ⟨#[]⟩) _ hgA (by simp) (by simp)).mono ?_;rintro e w' ⟨rfl,rfl⟩;go_wp2;go_ret;refine ⟨rfl,?_⟩;exact (((((qab _ _).alloc qg _).alloc (by simp) _).alloc (by simp;omega) _).alloc (by simp;omega) _).alloc (by simp;omega) _
end
end Go.Proofs.YtnfdccldabbobaaGreatDoor
