/- Several texts in one, in their order. -/
import Derived.Test.YtcoeamamaifoeaaGreatDoorPCrashx1
import Derived.Test.YtcoeamamaifoeaaGreatDoorPCrashx2
import Derived.Test.YtcoeamamaifoeaaGreatDoorPCrashx8
import Derived.Test.YtcoeamamaifoeaaGreatDoorPCrashx3
import Derived.Test.YtcoeamamaifoeaaGreatDoorPCrashx5
import Derived.Test.YtcoeamamaifoeaaGreatDoorPCrashx4
import Derived.Deep.QuietTactic
set_option maxHeartbeats 8000000
set_option maxRecDepth 100000
namespace Go.Proofs.YtcoeamamaifoeaaGreatDoor
open Go.RowKit
def partsB (l:List Int) (least most:Int):Bool:=decide (l.length≤5) && l.all (fun z=>inB z least most)
theorem partsB_at {l:List Int} {least most:Int} (j:Nat) (hj:j<l.length) (h:inB (l.getD j 0) least most=false):partsB l least most=false:=by
 have:(l.all (fun z=>inB z least most))=false:=by
  rw [List.all_eq_false]
  exact ⟨l.getD j 0,by simp [List.getD,hj],by rw [h];decide⟩
 simp [partsB,this]
theorem partsB_all {l:List Int} {least most:Int} (h:∀ j,j<l.length→inB (l.getD j 0) least most=true):partsB l least most=decide (l.length≤5):=by
 have:(l.all (fun z=>inB z least most))=true:=by
  rw [List.all_eq_true]
  intro z hz
  obtain ⟨j,hj,rfl⟩:=List.getElem_of_mem hz
  have:=h j hj
  simpa [List.getD,hj] using this
 simp [partsB,this]
theorem okB_parts (o:ObjV):okB o=(inB o.kind 1 99 && (partsB o.ints (-1000000) 1000000 && partsB o.refs 0 31)):=by
 unfold okB partsB
 cases inB o.kind 1 99<;>cases decide (o.ints.length≤5)<;>cases decide (o.refs.length≤5)<;>cases o.ints.all (fun z=>inB z (-1000000) 1000000)<;>simp
theorem inB_false {x l m:Int} (h:inB x l m=false):x<l∨(¬ x<l∧m<x):=by simp [inB] at h;omega
theorem inB_true {x l m:Int} (h:inB x l m=true):¬ x<l∧¬ m<x:=by simp [inB] at h;omega
def IsErr (ok:Bool) (e:Ending):Prop:=(ok=true∧e=.returned .nilIface)∨(ok=false∧∃ s,e=.returned (.iface 200 (.agg #[.string s])))
theorem isErr_ok {ok:Bool} (h:ok=true):IsErr ok (.returned .nilIface):=.inl ⟨h,rfl⟩
theorem isErr_no {ok:Bool} (h:ok=false) (s:ByteArray):IsErr ok (.returned (.iface 200 (.agg #[.string s]))):=.inr ⟨h,s,rfl⟩
theorem partsOk_any (a:Option Addr) (c:Nat) (l:List Int) (least most:Int) (w:World) (hr:ReadsI w a l) (hl:l.length≤140737488355328):
  Calls Tryz.prog 167 #[.slice a l.length c,.int .i64 least,.int .i64 most] w fun e w'=>e=.returned (.bool (partsB l least most))∧w'=w:=by
 go_enter Tryz.func167,Tryz.ntmps167
 go_wp2
 go_loop [11] (fun i=>∃ j:Nat,j≤l.length∧i=.int .i64 j∧Hid (∀ t,t<j→inB (l.getD t 0) least most=true)) (fun i=>l.length-(RowKit.intOf i).toNat)
 case atStart=>exact ⟨0,by omega,rfl,fun t ht=>by omega⟩
 case round=>
  obtain ⟨j,hj,rfl,hall⟩:=hrel
  by_cases hlt:j<l.length
  ·rcases hr.cases with rfl | ⟨b,off,rfl,hpos,hcell⟩
   ·simp at hlt
   have hc:=hcell j hlt
   clear hcell
   cases hz:inB (l.getD j 0) least most with
   | false=>
    have HE:Hid (partsB l least most=false):=partsB_at j hlt hz
    have hz':=inB_false hz
    clear hz
    generalize l.getD j 0=z at*
    rcases hz' with h1 | ⟨h1,h2⟩
    all_goals
     go_wp2
     go_ret
     exact ⟨ret_bool HE.out.symm,rfl⟩
   | true=>
    have HN:Hid (∀ t,t<j+1→inB (l.getD t 0) least most=true):=by
     intro t ht
     by_cases e:t=j
     ·rw [e];exact hz
     ·exact hall.out t (by omega)
    obtain ⟨h1,h2⟩:=inB_true hz
    clear hz
    generalize l.getD j 0=z at*
    go_wp2
    go_round
    case rel=>exact ⟨j+1,by omega,by go_num,HN⟩
    case measure=>simp [RowKit.intOf];omega
  ·have HE:Hid (partsB l least most=decide (l.length≤5)):=partsB_all (fun t ht=>hall.out t (by omega))
   go_wp2
   go_ret
   exact ⟨ret_bool (by rw [HE.out];exact decide_eq_decide.2 (by omega)),rfl⟩
theorem checkObj_any (o:ObjV) (aI:Option Addr) (cI:Nat) (aR:Option Addr) (cR:Nat) (w:World) (hr:ReadsO w aI cI aR cR o) (hnI:o.ints.length≤140737488355328) (hnR:o.refs.length≤140737488355328):
  Calls Tryz.prog 163 #[.agg #[.int .i64 o.kind,.slice aI o.ints.length cI,.slice aR o.refs.length cR]] w fun e w'=>IsErr (okB o) e∧Below w.heap.size w w':=by
 have HOK:=okB_parts o
 generalize okB o=OK at*
 obtain ⟨k,ints,refs⟩:=o
 obtain ⟨hI,hR,_,_⟩:=hr
 simp only at*
 obtain ⟨W,hW,b0,hbW,hsW⟩:=boxes1 w [.int .i64 k,.slice aI ints.length cI,.slice aR refs.length cR] 42
 have hI':=hI.below hbW
 have hR':=hR.below hbW
 have x0:=b0.cell 0 _ rfl
 have x1:=b0.cell 1 _ rfl
 have x2:=b0.cell 2 _ rfl
 cases hk:inB k 1 99 with
 | false=>
  have HF:Hid (OK=false):=by rw [Hid,HOK,hk,Bool.false_and]
  clear HOK
  have hz':=inB_false hk
  clear hk
  rcases hz' with h1 | ⟨h1,h2⟩
  all_goals
   go_enter Tryz.func163,Tryz.ntmps163
   go_wp2
   go_ret
   exact ⟨isErr_no HF.out _,hW.out▸hbW⟩
 | true=>
 rw [hk,Bool.true_and] at HOK
 obtain ⟨h1,h2⟩:=inB_true hk
 clear hk
 cases hp:partsB ints (-1000000) 1000000 with
 | false=>
  have HF:Hid (OK=false):=by rw [Hid,HOK,hp,Bool.false_and]
  clear HOK
  have HP:Hid (_=_):=hp
  clear hp
  go_enter Tryz.func163,Tryz.ntmps163
  go_wp2_with fail
  rw [hW.out]
  refine (partsOk_any aI cI ints _ _ W hI' hnI).mono ?_
  rintro e w' ⟨rfl,rfl⟩
  rw [HP.out]
  go_wp2
  go_ret
  exact ⟨isErr_no HF.out _,hbW⟩
 | true=>
 rw [hp,Bool.true_and] at HOK
 have HP:Hid (_=_):=hp
 clear hp
 cases hq:partsB refs 0 31 with
 | false=>
  have HF:Hid (OK=false):=by rw [Hid,HOK,hq]
  clear HOK
  have HQ:Hid (_=_):=hq
  clear hq
  go_enter Tryz.func163,Tryz.ntmps163
  go_wp2_with fail
  rw [hW.out]
  refine (partsOk_any aI cI ints _ _ W hI' hnI).mono ?_
  rintro e w' ⟨rfl,rfl⟩
  rw [HP.out]
  go_wp2_with fail
  refine (partsOk_any aR cR refs _ _ _ hR' hnR).mono ?_
  rintro e w' ⟨rfl,rfl⟩
  rw [HQ.out]
  go_wp2
  go_ret
  exact ⟨isErr_no HF.out _,hbW⟩
 | true=>
  have HF:Hid (OK=true):=by rw [Hid,HOK,hq]
  clear HOK
  have HQ:Hid (_=_):=hq
  clear hq
  go_enter Tryz.func163,Tryz.ntmps163
  go_wp2_with fail
  rw [hW.out]
  refine (partsOk_any aI cI ints _ _ W hI' hnI).mono ?_
  rintro e w' ⟨rfl,rfl⟩
  rw [HP.out]
  go_wp2_with fail
  refine (partsOk_any aR cR refs _ _ _ hR' hnR).mono ?_
  rintro e w' ⟨rfl,rfl⟩
  rw [HQ.out]
  go_wp2
  go_ret
  exact ⟨isErr_ok HF.out,hbW⟩
theorem implObjOk_any (o:ObjV) (aI:Option Addr) (cI:Nat) (aR:Option Addr) (cR:Nat) (w:World) (hg:ErrT w) (hr:ReadsO w aI cI aR cR o) (hnI:o.ints.length≤140737488355328) (hnR:o.refs.length≤140737488355328):
  Calls Tryz.prog 157 #[.agg #[.int .i64 o.kind,.slice aI o.ints.length cI,.slice aR o.refs.length cR]] w fun e w'=>e=.returned (.bool (okB o))∧Below w.heap.size w w':=by
 obtain ⟨W,hW,b0,hbW,hsW⟩:=boxes1 w [.int .i64 o.kind,.slice aI o.ints.length cI,.slice aR o.refs.length cR] 42
 have hr':=hr.below hbW
 have hg':=hg.keep hbW
 have x0:=b0.cell 0 _ rfl
 have x1:=b0.cell 1 _ rfl
 have x2:=b0.cell 2 _ rfl
 go_enter Tryz.func157,Tryz.ntmps157
 go_wp2_with fail
 rw [hW.out]
 refine (checkObj_any o aI cI aR cR W hr' hnI hnR).mono ?_
 rintro e w1 ⟨he,hb1⟩
 have B1:Below w.heap.size w w1:=hbW.trans (hb1.mono hbW.size)
 rcases he with ⟨hok,rfl⟩ | ⟨hok,s,rfl⟩
 ·have HO:Hid (_=_):=hok
  clear hok
  go_wp2_with fail
  refine (isNo_nil w1).mono ?_
  rintro e w2 ⟨rfl,hb2⟩
  go_wp2
  go_ret
  exact ⟨by rw [HO.out];rfl,B1.trans (hb2.mono B1.size)⟩
 ·have HO:Hid (_=_):=hok
  clear hok
  go_wp2_with fail
  refine (isNo_hit s w1 (hg'.keep hb1)).mono ?_
  rintro e w2 ⟨rfl,hb2⟩
  go_wp2
  go_ret
  exact ⟨by rw [HO.out];rfl,B1.trans (hb2.mono B1.size)⟩
theorem slotB_same {s:SlotV} (h:s.has=false):slotB s=sameO s.o noO:=by
 obtain ⟨b,k,i,r⟩:=s
 simp only at h
 subst h
 show slotB ⟨false,k,i,r⟩=(decide (k=(0:Int)) && (decide (i=([]:List Int)) && decide (r=([]:List Int))))
 rw [Bool.eq_iff_iff]
 simp [slotB]
theorem slotOk_any (s:SlotA) (w:World) (hg:ErrT w) (hr:s.reads w) (hl:Fit [s]):
  Calls Tryz.prog 138 #[.agg s.cells.toArray] w fun e w'=>e=.returned (.bool (slotB s.v))∧Below w.heap.size w w':=by
 obtain ⟨h1,h2⟩:=hl s (List.mem_singleton.2 rfl)
 obtain ⟨W,hW,b0,hbW,hsW⟩:=boxes1 w s.cells 44
 have hr':s.reads W:=ReadsO.below hr hbW
 have hg':=hg.keep hbW
 have HT:Hid (s.v.has=true→slotB s.v=okB s.v.o):=fun h=>slotB_has h
 have HF:Hid (s.v.has=false→slotB s.v=sameO s.v.o noO):=fun h=>slotB_same h
 have hno:ReadsO W none 0 none 0 noO:=⟨fun h=>absurd rfl h,fun h=>absurd rfl h,fun _=>rfl,fun _=>rfl⟩
 have C1:=implObjOk_any s.v.o s.aI s.cI s.aR s.cR W hg' hr' (by omega) (by omega)
 have C2:=implSameObj_any s.v.o noO s.aI s.cI s.aR s.cR none 0 none 0 W hr' hno (by omega) (by omega) (by simp [noO]) (by simp [noO])
 simp only [noO] at C2
 generalize slotB s.v=R at*
 simp only [SlotA.cells] at*
 cases hh:s.v.has with
 | true=>
  have HE:Hid (_=_):=HT.out hh
  rw [hh] at hW
  clear hh C2 HT HF
  go_enter Tryz.func138,Tryz.ntmps138
  go_wp2_with fail
  rw [hW.out]
  refine C1.mono ?_
  rintro e w1 ⟨rfl,hb1⟩
  go_wp2
  go_ret
  exact ⟨ret_bool HE.out.symm,hbW.trans (hb1.mono hbW.size)⟩
 | false=>
  have HE:Hid (_=_):=HF.out hh
  rw [hh] at hW
  clear hh C1 HT HF
  go_enter Tryz.func138,Tryz.ntmps138
  go_wp2_with fail
  rw [hW.out]
  refine C2.mono ?_
  rintro e w1 ⟨rfl,hb1⟩
  go_wp2
  go_ret
  exact ⟨ret_bool HE.out.symm,hbW.trans (hb1.mono hbW.size)⟩
theorem cells_take (ss:List SlotA) (k:Nat) (hk:k<ss.length):((cellsS ss).drop (k*4)).take 4=(ss.getD k zeroS).cells:=by
 apply List.ext_getElem?
 intro j
 rw [List.getElem?_take]
 by_cases hj:j<4
 ·rw [if_pos (by omega),List.getElem?_drop]
  exact cellsS_at ss k j hk hj
 ·rw [if_neg (by omega),List.getElem?_eq_none (by rw [cells_len];omega)]
theorem run_index_slot (ss:List SlotA) (h4:ss.length=4) (k:Nat) (hk:k<4) (w:World):
  (Instr.index 45 (.agg (cellsS ss).toArray) (.int .i64 (k:Int))).run Tryz.prog w=.ok (.agg (ss.getD k zeroS).cells.toArray) w:=by
 have he:=cells_take ss k (by omega)
 have hz:(sizeOf 44).run Tryz.prog w=.ok 4 w:=by kernel_rfl
 simp [Instr.index,asIntOf,Go.part,run_underlying Tryz.underlying45,hz]
 rw [if_pos hk,he]
 simp [List.getD]
theorem yes_setDeed (W:World) (v:Value):(Instr.typeAssert (.iface 176 v) 159 176 true).run Tryz.prog W=.ok (.tuple #[v,.bool true]) W:=by kernel_rfl
theorem zero_setDeed (W:World):(do pure (Value.tuple #[← zeroValue 176,.bool false]):Sem Value).run Tryz.prog W=.ok (.tuple #[.agg #[.int .i64 0,.int .i64 0,.int .i64 0,.bool false,.int .i64 0,.slice none 0 0,.slice none 0 0,.bool false,.int .i64 0,.slice none 0 0,.slice none 0 0],.bool false]) W:=by kernel_rfl
theorem nil_setDeed (W:World):(Instr.typeAssert .nilIface 159 176 true).run Tryz.prog W=.ok (.tuple #[.agg #[.int .i64 0,.int .i64 0,.int .i64 0,.bool false,.int .i64 0,.slice none 0 0,.slice none 0 0,.bool false,.int .i64 0,.slice none 0 0,.slice none 0 0],.bool false]) W:=by kernel_rfl
theorem no_setDeed (W:World) (u:TypeId) (v:Value) (h:u≠176):(Instr.typeAssert (.iface u v) 159 176 true).run Tryz.prog W=.ok (.tuple #[.agg #[.int .i64 0,.int .i64 0,.int .i64 0,.bool false,.int .i64 0,.slice none 0 0,.slice none 0 0,.bool false,.int .i64 0,.slice none 0 0,.slice none 0 0],.bool false]) W:=by
 have e:(Instr.typeAssert (.iface u v) 159 176 true).run Tryz.prog W=(if u=176 then (pure (Value.tuple #[v,.bool true]):Sem Value) else (do pure (Value.tuple #[← zeroValue 176,.bool false]))).run Tryz.prog W:=by kernel_rfl
 rw [e,if_neg h]
 exact zero_setDeed W
theorem yes_commitDeed (W:World) (v:Value):(Instr.typeAssert (.iface 178 v) 159 178 true).run Tryz.prog W=.ok (.tuple #[v,.bool true]) W:=by kernel_rfl
theorem zero_commitDeed (W:World):(do pure (Value.tuple #[← zeroValue 178,.bool false]):Sem Value).run Tryz.prog W=.ok (.tuple #[.agg #[.int .i64 0,.int .i64 0],.bool false]) W:=by kernel_rfl
theorem nil_commitDeed (W:World):(Instr.typeAssert .nilIface 159 178 true).run Tryz.prog W=.ok (.tuple #[.agg #[.int .i64 0,.int .i64 0],.bool false]) W:=by kernel_rfl
theorem no_commitDeed (W:World) (u:TypeId) (v:Value) (h:u≠178):(Instr.typeAssert (.iface u v) 159 178 true).run Tryz.prog W=.ok (.tuple #[.agg #[.int .i64 0,.int .i64 0],.bool false]) W:=by
 have e:(Instr.typeAssert (.iface u v) 159 178 true).run Tryz.prog W=(if u=178 then (pure (Value.tuple #[v,.bool true]):Sem Value) else (do pure (Value.tuple #[← zeroValue 178,.bool false]))).run Tryz.prog W:=by kernel_rfl
 rw [e,if_neg h]
 exact zero_commitDeed W
theorem yes_abortDeed (W:World) (v:Value):(Instr.typeAssert (.iface 179 v) 159 179 true).run Tryz.prog W=.ok (.tuple #[v,.bool true]) W:=by kernel_rfl
theorem zero_abortDeed (W:World):(do pure (Value.tuple #[← zeroValue 179,.bool false]):Sem Value).run Tryz.prog W=.ok (.tuple #[.agg #[.int .i64 0,.int .i64 0],.bool false]) W:=by kernel_rfl
theorem nil_abortDeed (W:World):(Instr.typeAssert .nilIface 159 179 true).run Tryz.prog W=.ok (.tuple #[.agg #[.int .i64 0,.int .i64 0],.bool false]) W:=by kernel_rfl
theorem no_abortDeed (W:World) (u:TypeId) (v:Value) (h:u≠179):(Instr.typeAssert (.iface u v) 159 179 true).run Tryz.prog W=.ok (.tuple #[.agg #[.int .i64 0,.int .i64 0],.bool false]) W:=by
 have e:(Instr.typeAssert (.iface u v) 159 179 true).run Tryz.prog W=(if u=179 then (pure (Value.tuple #[v,.bool true]):Sem Value) else (do pure (Value.tuple #[← zeroValue 179,.bool false]))).run Tryz.prog W:=by kernel_rfl
 rw [e,if_neg h]
 exact zero_abortDeed W
theorem yes_backDeed (W:World) (v:Value):(Instr.typeAssert (.iface 181 v) 159 181 true).run Tryz.prog W=.ok (.tuple #[v,.bool true]) W:=by kernel_rfl
theorem zero_backDeed (W:World):(do pure (Value.tuple #[← zeroValue 181,.bool false]):Sem Value).run Tryz.prog W=.ok (.tuple #[.agg #[.int .i64 0,.int .i64 0,.int .i64 0,.bool false,.int .i64 0,.slice none 0 0,.slice none 0 0,.int .i64 0],.bool false]) W:=by kernel_rfl
theorem nil_backDeed (W:World):(Instr.typeAssert .nilIface 159 181 true).run Tryz.prog W=.ok (.tuple #[.agg #[.int .i64 0,.int .i64 0,.int .i64 0,.bool false,.int .i64 0,.slice none 0 0,.slice none 0 0,.int .i64 0],.bool false]) W:=by kernel_rfl
theorem no_backDeed (W:World) (u:TypeId) (v:Value) (h:u≠181):(Instr.typeAssert (.iface u v) 159 181 true).run Tryz.prog W=.ok (.tuple #[.agg #[.int .i64 0,.int .i64 0,.int .i64 0,.bool false,.int .i64 0,.slice none 0 0,.slice none 0 0,.int .i64 0],.bool false]) W:=by
 have e:(Instr.typeAssert (.iface u v) 159 181 true).run Tryz.prog W=(if u=181 then (pure (Value.tuple #[v,.bool true]):Sem Value) else (do pure (Value.tuple #[← zeroValue 181,.bool false]))).run Tryz.prog W:=by kernel_rfl
 rw [e,if_neg h]
 exact zero_backDeed W
theorem yes_endDeed (W:World) (v:Value):(Instr.typeAssert (.iface 182 v) 159 182 true).run Tryz.prog W=.ok (.tuple #[v,.bool true]) W:=by kernel_rfl
theorem zero_endDeed (W:World):(do pure (Value.tuple #[← zeroValue 182,.bool false]):Sem Value).run Tryz.prog W=.ok (.tuple #[.agg #[.int .i64 0,.int .i64 0],.bool false]) W:=by kernel_rfl
theorem nil_endDeed (W:World):(Instr.typeAssert .nilIface 159 182 true).run Tryz.prog W=.ok (.tuple #[.agg #[.int .i64 0,.int .i64 0],.bool false]) W:=by kernel_rfl
theorem no_endDeed (W:World) (u:TypeId) (v:Value) (h:u≠182):(Instr.typeAssert (.iface u v) 159 182 true).run Tryz.prog W=.ok (.tuple #[.agg #[.int .i64 0,.int .i64 0],.bool false]) W:=by
 have e:(Instr.typeAssert (.iface u v) 159 182 true).run Tryz.prog W=(if u=182 then (pure (Value.tuple #[v,.bool true]):Sem Value) else (do pure (Value.tuple #[← zeroValue 182,.bool false]))).run Tryz.prog W:=by kernel_rfl
 rw [e,if_neg h]
 exact zero_endDeed W
theorem yes_checkDeed (W:World) (v:Value):(Instr.typeAssert (.iface 184 v) 159 184 true).run Tryz.prog W=.ok (.tuple #[v,.bool true]) W:=by kernel_rfl
theorem nil_checkDeed (W:World):(Instr.typeAssert .nilIface 159 184 true).run Tryz.prog W=.ok (.tuple #[.agg #[.slice none 0 0],.bool false]) W:=by kernel_rfl
def linkD (tx prev:Int):List Value:=[.int .i64 tx,.int .i64 prev]
def setD (tx prev oid:Int) (b a:SlotA):List Value:=[.int .i64 tx,.int .i64 prev,.int .i64 oid,.bool b.v.has,.int .i64 b.v.o.kind,.slice b.aI b.v.o.ints.length b.cI,.slice b.aR b.v.o.refs.length b.cR,.bool a.v.has,.int .i64 a.v.o.kind,.slice a.aI a.v.o.ints.length a.cI,.slice a.aR a.v.o.refs.length a.cR]
def backD (tx prev oid:Int) (a:SlotA) (next:Int):List Value:=[.int .i64 tx,.int .i64 prev,.int .i64 oid,.bool a.v.has,.int .i64 a.v.o.kind,.slice a.aI a.v.o.ints.length a.cI,.slice a.aR a.v.o.refs.length a.cR,.int .i64 next]
def checkD (ls:List LiveV) (aL:Option Addr) (cL:Nat):List Value:=[.slice aL ls.length cL]
def issetDeed (v:List Value):Value:=.iface 176 (.agg v.toArray)
def iscommitDeed (v:List Value):Value:=.iface 178 (.agg v.toArray)
def isabortDeed (v:List Value):Value:=.iface 179 (.agg v.toArray)
def isbackDeed (v:List Value):Value:=.iface 181 (.agg v.toArray)
def isendDeed (v:List Value):Value:=.iface 182 (.agg v.toArray)
def ischeckDeed (v:List Value):Value:=.iface 184 (.agg v.toArray)
def deedV (r:RecA):Value:=
 if r.kind == 1 then issetDeed (setD r.tx r.prev r.oid r.bf r.af)
 else if r.kind == 2 then iscommitDeed (linkD r.tx r.prev)
 else if r.kind == 3 then isabortDeed (linkD r.tx r.prev)
 else if r.kind == 4 then isbackDeed (backD r.tx r.prev r.oid r.af r.next)
 else if r.kind == 5 then isendDeed (linkD r.tx r.prev)
 else if r.kind == 6 then ischeckDeed (checkD r.txs r.aL r.cL)
 else .nilIface
theorem deedOf_any (r:RecA) (w:World):
  Calls Tryz.prog 127 #[.agg r.cells.toArray] w fun e w'=>e=.returned (deedV r)∧Below w.heap.size w w':=by
 obtain ⟨W,hW,b0,b1,hbW,hsW⟩:=boxes2 w r.cells [.int .i64 r.tx,.int .i64 r.prev] 100 174
 have HV:Hid (deedV r=if r.kind == 1 then issetDeed (setD r.tx r.prev r.oid r.bf r.af)
  else if r.kind == 2 then iscommitDeed (linkD r.tx r.prev)
  else if r.kind == 3 then isabortDeed (linkD r.tx r.prev)
  else if r.kind == 4 then isbackDeed (backD r.tx r.prev r.oid r.af r.next)
  else if r.kind == 5 then isendDeed (linkD r.tx r.prev)
  else if r.kind == 6 then ischeckDeed (checkD r.txs r.aL r.cL)
  else .nilIface):=rfl
 generalize deedV r=D at*
 simp only [RecA.cells] at*
 obtain ⟨x0,x1,x2,x3,x4,x5,x6,x7,x8,x9,x10,x11,x12,x13,x14⟩:=fifteen b0
 have y0:=b1.cell 0 _ rfl
 have y1:=b1.cell 1 _ rfl
 clear b0 b1 hsW
 cases k1:(r.kind == 1) with
 | true=>
  have HR:Hid (D=issetDeed (setD r.tx r.prev r.oid r.bf r.af)):=by rw [Hid,HV.out];simp [k1]
  clear HV
  go_enter Tryz.func127,Tryz.ntmps127
  go_wp2_with fail
  rw [hW.out]
  clear hW
  go_wp2
  go_ret
  exact ⟨by rw [HR.out];rfl,hbW⟩
 | false=>
  cases k2:(r.kind == 2) with
  | true=>
   have HR:Hid (D=iscommitDeed (linkD r.tx r.prev)):=by rw [Hid,HV.out];simp [k1,k2]
   clear HV
   go_enter Tryz.func127,Tryz.ntmps127
   go_wp2_with fail
   rw [hW.out]
   clear hW
   go_wp2
   go_ret
   exact ⟨by rw [HR.out];rfl,hbW⟩
  | false=>
   cases k3:(r.kind == 3) with
   | true=>
    have HR:Hid (D=isabortDeed (linkD r.tx r.prev)):=by rw [Hid,HV.out];simp [k1,k2,k3]
    clear HV
    go_enter Tryz.func127,Tryz.ntmps127
    go_wp2_with fail
    rw [hW.out]
    clear hW
    go_wp2
    go_ret
    exact ⟨by rw [HR.out];rfl,hbW⟩
   | false=>
    cases k4:(r.kind == 4) with
    | true=>
     have HR:Hid (D=isbackDeed (backD r.tx r.prev r.oid r.af r.next)):=by rw [Hid,HV.out];simp [k1,k2,k3,k4]
     clear HV
     go_enter Tryz.func127,Tryz.ntmps127
     go_wp2_with fail
     rw [hW.out]
     clear hW
     go_wp2
     go_ret
     exact ⟨by rw [HR.out];rfl,hbW⟩
    | false=>
     cases k5:(r.kind == 5) with
     | true=>
      have HR:Hid (D=isendDeed (linkD r.tx r.prev)):=by rw [Hid,HV.out];simp [k1,k2,k3,k4,k5]
      clear HV
      go_enter Tryz.func127,Tryz.ntmps127
      go_wp2_with fail
      rw [hW.out]
      clear hW
      go_wp2
      go_ret
      exact ⟨by rw [HR.out];rfl,hbW⟩
     | false=>
      cases k6:(r.kind == 6) with
      | true=>
       have HR:Hid (D=ischeckDeed (checkD r.txs r.aL r.cL)):=by rw [Hid,HV.out];simp [k1,k2,k3,k4,k5,k6]
       clear HV
       go_enter Tryz.func127,Tryz.ntmps127
       go_wp2_with fail
       rw [hW.out]
       clear hW
       go_wp2
       go_ret
       exact ⟨by rw [HR.out];rfl,hbW⟩
      | false=>
       have HR:Hid (D=.nilIface):=by rw [Hid,HV.out];simp [k1,k2,k3,k4,k5,k6]
       clear HV
       go_enter Tryz.func127,Tryz.ntmps127
       go_wp2
       go_ret
       exact ⟨by rw [HR.out];rfl,by rw [hW.out];exact hbW⟩
end Go.Proofs.YtcoeamamaifoeaaGreatDoor
namespace Go.Proofs.YtcoeamamaifoeaaGreatDoor
open Go.RowKit
theorem txOk_any (x:Int) (w:World):Calls Tryz.prog 160 #[.int .i64 x] w fun e w'=>e=.returned (.bool (inB x 1 1000))∧w'=w:=by
 by_cases h1:1≤x
 ·by_cases h2:x≤1000
  ·have HB:Hid (inB x 1 1000=true):=by simp [Hid,inB];omega
   go_enter Tryz.func160,Tryz.ntmps160
   go_wp2
   go_ret
   exact ⟨ret_bool HB.out.symm,rfl⟩
  ·have HB:Hid (inB x 1 1000=false):=by simp [Hid,inB];omega
   go_enter Tryz.func160,Tryz.ntmps160
   go_wp2
   go_ret
   exact ⟨ret_bool HB.out.symm,rfl⟩
 ·have HB:Hid (inB x 1 1000=false):=by simp [Hid,inB];omega
  go_enter Tryz.func160,Tryz.ntmps160
  go_wp2
  go_ret
  exact ⟨ret_bool HB.out.symm,rfl⟩
theorem oidOk_any (x:Int) (w:World):Calls Tryz.prog 124 #[.int .i64 x] w fun e w'=>e=.returned (.bool (inB x 1 31))∧w'=w:=by
 by_cases h1:1≤x
 ·by_cases h2:x≤31
  ·have HB:Hid (inB x 1 31=true):=by simp [Hid,inB];omega
   go_enter Tryz.func124,Tryz.ntmps124
   go_wp2
   go_ret
   exact ⟨ret_bool HB.out.symm,rfl⟩
  ·have HB:Hid (inB x 1 31=false):=by simp [Hid,inB];omega
   go_enter Tryz.func124,Tryz.ntmps124
   go_wp2
   go_ret
   exact ⟨ret_bool HB.out.symm,rfl⟩
 ·have HB:Hid (inB x 1 31=false):=by simp [Hid,inB];omega
  go_enter Tryz.func124,Tryz.ntmps124
  go_wp2
  go_ret
  exact ⟨ret_bool HB.out.symm,rfl⟩
theorem isAhead_any (n x:Int) (w:World):Calls Tryz.prog 142 #[.int .i64 n,.int .i64 x] w fun e w'=>e=.returned (.bool (inB x 0 (n-1)))∧w'=w:=by
 by_cases h1:0≤x
 ·by_cases h2:x<n
  ·have HB:Hid (inB x 0 (n-1)=true):=by simp [Hid,inB];omega
   go_enter Tryz.func142,Tryz.ntmps142
   go_wp2
   go_ret
   exact ⟨ret_bool HB.out.symm,rfl⟩
  ·have HB:Hid (inB x 0 (n-1)=false):=by simp [Hid,inB];omega
   go_enter Tryz.func142,Tryz.ntmps142
   go_wp2
   go_ret
   exact ⟨ret_bool HB.out.symm,rfl⟩
 ·have HB:Hid (inB x 0 (n-1)=false):=by simp [Hid,inB];omega
  go_enter Tryz.func142,Tryz.ntmps142
  go_wp2
  go_ret
  exact ⟨ret_bool HB.out.symm,rfl⟩
def linkB (n tx prev:Int):Bool:=inB tx 1 1000 && inB prev 0 (n-1)
theorem linkOk_any (n tx prev:Int) (w:World):Calls Tryz.prog 141 #[.int .i64 n,.agg #[.int .i64 tx,.int .i64 prev]] w fun e w'=>e=.returned (.bool (linkB n tx prev))∧Below w.heap.size w w':=by
 obtain ⟨W,hW,b0,hbW,hsW⟩:=boxes1 w [.int .i64 tx,.int .i64 prev] 174
 have HZ:Hid (linkB n tx prev=(inB tx 1 1000 && inB prev 0 (n-1))):=rfl
 generalize linkB n tx prev=R at*
 have y0:=b0.cell 0 _ rfl
 have y1:=b0.cell 1 _ rfl
 clear hsW b0
 go_enter Tryz.func141,Tryz.ntmps141
 go_wp2_with fail
 rw [hW.out]
 clear hW
 refine (txOk_any _ W).mono ?_
 rintro e u ⟨rfl,hu⟩
 rw [hu]
 clear hu u
 cases h0:inB tx 1 1000 with
 | false=>
  have HR:Hid (R=false):=by rw [Hid,HZ.out];simp [h0]
  go_wp2
  go_ret
  exact ⟨ret_bool HR.out.symm,hbW⟩
 | true=>
  have HR:Hid (R=inB prev 0 (n-1)):=by rw [Hid,HZ.out];simp [h0]
  go_wp2_with fail
  refine (isAhead_any _ _ W).mono ?_
  rintro e u ⟨rfl,hu⟩
  rw [hu]
  clear hu u
  go_wp2
  go_ret
  exact ⟨ret_bool HR.out.symm,hbW⟩
def aheadTx (ls:List LiveV):Nat→Int
 | 0=>0
 | k+1=>(ls.getD k zeroL).tx
theorem liveOk_eq (n:Int) (ls:List LiveV) (k:Nat):liveOk n ls k=(decide (aheadTx ls k<(ls.getD k zeroL).tx) && (inB (ls.getD k zeroL).tx 1 1000 && (!((ls.getD k zeroL).last == 0) && inB (ls.getD k zeroL).last 0 (n-1)))):=by
 rw [Bool.eq_iff_iff]
 cases k with
 | zero=>simp [liveOk,aheadTx,inB];omega
 | succ k=>simp [liveOk,aheadTx,inB];omega
theorem livesOk_any (n:Int) (aL:Option Addr) (cL:Nat) (ls:List LiveV) (w:World) (hr:ReadsL w aL ls) (hl:ls.length≤1099511627776):
  Calls Tryz.prog 143 #[.int .i64 n,.slice aL ls.length cL] w fun e w'=>e=.returned (.bool (livesB n ls))∧Below w.heap.size w w':=by
 have HNO:Hid (∀ k,k<ls.length→liveOk n ls k=false→livesB n ls=false):=fun k hk h=>livesB_no k hk h
 have HAL:Hid ((∀ k,k<ls.length→liveOk n ls k=true)→livesB n ls=decide (ls.length≤20)):=fun h=>livesB_all h
 generalize livesB n ls=R at*
 go_enter Tryz.func143,Tryz.ntmps143
 go_wp2
 go_loopw [5,10] (fun t i wr=>∃ k:Nat,k≤ls.length∧i=.int .i64 k∧t=.int .i64 (aheadTx ls k)∧Hid (∀ j,j<k→liveOk n ls j=true)∧Below w.heap.size w wr) (fun _ i _=>ls.length-(intOf i).toNat)
 case atStart=>exact ⟨0,Nat.zero_le _,rfl,rfl,fun j hj=>by omega,Below.refl _ _⟩
 case round=>
  obtain ⟨k,hk,rfl,rfl,hall,hbl⟩:=hrel
  have hrr:=hr.below hbl
  clear hr
  by_cases hlt:k<ls.length
  ·obtain ⟨b,off,rfl,hcell⟩:=hrr (by intro e;rw [e] at hlt;simp at hlt)
   obtain ⟨c0,c1,c2⟩:=hcell k hlt
   have HQ:Hid (_=_):=liveOk_eq n ls k
   have HX:Hid (aheadTx ls (k+1)=(ls.getD k zeroL).tx):=rfl
   have HN:Hid (liveOk n ls k=false→R=false):=fun h=>HNO.out k hlt h
   clear hcell HNO HAL
   generalize aheadTx ls k=p at*
   generalize hz:ls.getD k zeroL=z at*
   obtain ⟨W,hW,b0,hbW,hsW⟩:=boxes1 wr [.int .i64 z.tx,.int .i64 z.last,.bool z.aborts] 109
   have y0:=b0.cell 0 _ rfl
   have y1:=b0.cell 1 _ rfl
   have BW:Below w.heap.size w W:=hbl.trans (hbW.mono hbl.size)
   clear hsW b0 hz hbW
   by_cases hA:z.tx≤p
   ·have HR:Hid (R=false):=HN.out (by rw [HQ.out];simp;omega)
    clear HQ HN HX
    go_wp2
    go_ret
    exact ⟨ret_bool HR.out.symm,by rw [hW.out];exact BW⟩
   go_wp2_with fail
   rw [hW.out]
   refine (txOk_any _ W).mono ?_
   rintro e u ⟨rfl,hu⟩
   rw [hu]
   clear hu u hW
   cases hB:inB z.tx 1 1000 with
   | false=>
    have HR:Hid (R=false):=HN.out (by rw [HQ.out];simp [hB])
    clear HQ HN HX
    go_wp2
    go_ret
    exact ⟨ret_bool HR.out.symm,BW⟩
   | true=>
    cases hC:(z.last == 0) with
    | true=>
     have HR:Hid (R=false):=HN.out (by rw [HQ.out];simp [hC])
     clear HQ HN HX
     go_wp2
     go_ret
     exact ⟨ret_bool HR.out.symm,BW⟩
    | false=>
     go_wp2_with fail
     refine (isAhead_any _ _ W).mono ?_
     rintro e u ⟨rfl,hu⟩
     rw [hu]
     clear hu u
     cases hD:inB z.last 0 (n-1) with
     | false=>
      have HR:Hid (R=false):=HN.out (by rw [HQ.out];simp [hD])
      clear HQ HN HX
      go_wp2
      go_ret
      exact ⟨ret_bool HR.out.symm,BW⟩
     | true=>
      have HK:Hid (∀ j,j<k+1→liveOk n ls j=true):=by
       intro j hj
       by_cases e:j=k
       ·rw [e,HQ.out];simp [hB,hC,hD];omega
       ·exact hall.out j (by omega)
      clear HQ HN
      go_wp2
      go_roundw
      case rel=>exact ⟨k+1,by omega,by go_num,by rw [HX.out],HK,BW⟩
      case measure=>simp [intOf];omega
  ·have HR:Hid (R=decide (ls.length≤20)):=HAL.out (fun j hj=>hall.out j (by omega))
   clear HNO HAL
   go_wp2
   go_ret
   exact ⟨ret_bool (by rw [HR.out];exact decide_eq_decide.2 (by omega)),hbl⟩
theorem deedOk_set (n:Int) (tx prev oid:Int) (b a:SlotA) (w:World) (hg:ErrT w) (hb:b.reads w) (ha:a.reads w) (hlb:Fit [b]) (hla:Fit [a]):
  Calls Tryz.prog 128 #[.int .i64 n,issetDeed (setD tx prev oid b a)] w fun e w'=>e=.returned (.bool (linkB n tx prev && (inB oid 1 31 && (slotB b.v && (slotB a.v)))))∧Below w.heap.size w w':=by
 obtain ⟨W,hW,b0,hbW,hsW⟩:=boxes1 w [.int .i64 tx,.int .i64 prev,.int .i64 oid,.bool b.v.has,.int .i64 b.v.o.kind,.slice b.aI b.v.o.ints.length b.cI,.slice b.aR b.v.o.refs.length b.cR,.bool a.v.has,.int .i64 a.v.o.kind,.slice a.aI a.v.o.ints.length a.cI,.slice a.aR a.v.o.refs.length a.cR] 176
 have HZ:Hid (∀ R,R=(linkB n tx prev && (inB oid 1 31 && (slotB b.v && (slotB a.v))))→R=(linkB n tx prev && (inB oid 1 31 && (slotB b.v && (slotB a.v))))):=fun _ h=>h
 simp only [issetDeed,setD]
 have a_setDeed:=fun W=>yes_setDeed W (.agg #[.int .i64 tx,.int .i64 prev,.int .i64 oid,.bool b.v.has,.int .i64 b.v.o.kind,.slice b.aI b.v.o.ints.length b.cI,.slice b.aR b.v.o.refs.length b.cR,.bool a.v.has,.int .i64 a.v.o.kind,.slice a.aI a.v.o.ints.length a.cI,.slice a.aR a.v.o.refs.length a.cR])
 have HX:Hid (∀ u,Below W.heap.size W u→Box u w.heap.size [.int .i64 tx,.int .i64 prev,.int .i64 oid,.bool b.v.has,.int .i64 b.v.o.kind,.slice b.aI b.v.o.ints.length b.cI,.slice b.aR b.v.o.refs.length b.cR,.bool a.v.has,.int .i64 a.v.o.kind,.slice a.aI a.v.o.ints.length a.cI,.slice a.aR a.v.o.refs.length a.cR] 176):=fun u hu=>b0.below hu b0.lt
 obtain ⟨R,HQ⟩:∃ R,Hid (R=(linkB n tx prev && (inB oid 1 31 && (slotB b.v && (slotB a.v))))):=⟨_,rfl⟩
 rw [← HQ.out]
 clear hsW b0 HZ
 go_enter Tryz.func128,Tryz.ntmps128
 have x0:=(HX.out W (Below.refl _ _)).cell 0 _ rfl
 have x1:=(HX.out W (Below.refl _ _)).cell 1 _ rfl
 have x2:=(HX.out W (Below.refl _ _)).cell 2 _ rfl
 have x3:=(HX.out W (Below.refl _ _)).cell 3 _ rfl
 have x4:=(HX.out W (Below.refl _ _)).cell 4 _ rfl
 have x5:=(HX.out W (Below.refl _ _)).cell 5 _ rfl
 have x6:=(HX.out W (Below.refl _ _)).cell 6 _ rfl
 have x7:=(HX.out W (Below.refl _ _)).cell 7 _ rfl
 have x8:=(HX.out W (Below.refl _ _)).cell 8 _ rfl
 have x9:=(HX.out W (Below.refl _ _)).cell 9 _ rfl
 have x10:=(HX.out W (Below.refl _ _)).cell 10 _ rfl
 go_wp2_with fail
 rw [hW.out]
 clear hW
 have l0:Below W.heap.size W W:=Below.refl _ _
 refine (linkOk_any n tx prev W).mono ?_
 clear x0 x1 x2 x3 x4 x5 x6 x7 x8 x9 x10
 rintro e u0 ⟨rfl,hb0⟩
 have b_0:Below w.heap.size w u0:=(hbW).trans (hb0.mono (hbW).size)
 have l_0:Below W.heap.size W u0:=(l0).trans (hb0.mono (l0).size)
 have x0:=(HX.out u0 (l_0)).cell 0 _ rfl
 have x1:=(HX.out u0 (l_0)).cell 1 _ rfl
 have x2:=(HX.out u0 (l_0)).cell 2 _ rfl
 have x3:=(HX.out u0 (l_0)).cell 3 _ rfl
 have x4:=(HX.out u0 (l_0)).cell 4 _ rfl
 have x5:=(HX.out u0 (l_0)).cell 5 _ rfl
 have x6:=(HX.out u0 (l_0)).cell 6 _ rfl
 have x7:=(HX.out u0 (l_0)).cell 7 _ rfl
 have x8:=(HX.out u0 (l_0)).cell 8 _ rfl
 have x9:=(HX.out u0 (l_0)).cell 9 _ rfl
 have x10:=(HX.out u0 (l_0)).cell 10 _ rfl
 clear hb0
 cases h0:linkB n tx prev with
 | false=>
  have HR:Hid (R=false):=by rw [Hid,HQ.out];simp [h0]
  go_wp2
  go_ret
  exact ⟨ret_bool HR.out.symm,b_0⟩
 | true=>
  go_wp2_with fail
  refine (oidOk_any oid u0).mono ?_
  rintro e v ⟨rfl,hv⟩
  rw [hv]
  clear hv v
  cases h1:inB oid 1 31 with
  | false=>
   have HR:Hid (R=false):=by rw [Hid,HQ.out];simp [h0,h1]
   go_wp2
   go_ret
   exact ⟨ret_bool HR.out.symm,b_0⟩
  | true=>
   go_wp2_with fail
   refine (slotOk_any b u0 (hg.keep (b_0)) (ReadsO.below hb (b_0)) hlb).mono ?_
   clear x0 x1 x2 x3 x4 x5 x6 x7 x8 x9 x10
   rintro e u2 ⟨rfl,hb2⟩
   have b_2:Below w.heap.size w u2:=(b_0).trans (hb2.mono (b_0).size)
   have l_2:Below W.heap.size W u2:=(l_0).trans (hb2.mono (l_0).size)
   have x0:=(HX.out u2 (l_2)).cell 0 _ rfl
   have x1:=(HX.out u2 (l_2)).cell 1 _ rfl
   have x2:=(HX.out u2 (l_2)).cell 2 _ rfl
   have x3:=(HX.out u2 (l_2)).cell 3 _ rfl
   have x4:=(HX.out u2 (l_2)).cell 4 _ rfl
   have x5:=(HX.out u2 (l_2)).cell 5 _ rfl
   have x6:=(HX.out u2 (l_2)).cell 6 _ rfl
   have x7:=(HX.out u2 (l_2)).cell 7 _ rfl
   have x8:=(HX.out u2 (l_2)).cell 8 _ rfl
   have x9:=(HX.out u2 (l_2)).cell 9 _ rfl
   have x10:=(HX.out u2 (l_2)).cell 10 _ rfl
   clear hb2
   cases h2:slotB b.v with
   | false=>
    have HR:Hid (R=false):=by rw [Hid,HQ.out];simp [h0,h1,h2]
    go_wp2
    go_ret
    exact ⟨ret_bool HR.out.symm,b_2⟩
   | true=>
    go_wp2_with fail
    refine (slotOk_any a u2 (hg.keep (b_2)) (ReadsO.below ha (b_2)) hla).mono ?_
    clear x0 x1 x2 x3 x4 x5 x6 x7 x8 x9 x10
    rintro e u3 ⟨rfl,hb3⟩
    have b_3:Below w.heap.size w u3:=(b_2).trans (hb3.mono (b_2).size)
    have l_3:Below W.heap.size W u3:=(l_2).trans (hb3.mono (l_2).size)
    have x0:=(HX.out u3 (l_3)).cell 0 _ rfl
    have x1:=(HX.out u3 (l_3)).cell 1 _ rfl
    have x2:=(HX.out u3 (l_3)).cell 2 _ rfl
    have x3:=(HX.out u3 (l_3)).cell 3 _ rfl
    have x4:=(HX.out u3 (l_3)).cell 4 _ rfl
    have x5:=(HX.out u3 (l_3)).cell 5 _ rfl
    have x6:=(HX.out u3 (l_3)).cell 6 _ rfl
    have x7:=(HX.out u3 (l_3)).cell 7 _ rfl
    have x8:=(HX.out u3 (l_3)).cell 8 _ rfl
    have x9:=(HX.out u3 (l_3)).cell 9 _ rfl
    have x10:=(HX.out u3 (l_3)).cell 10 _ rfl
    clear hb3
    have HR:Hid (R=slotB a.v):=by rw [Hid,HQ.out];simp [h0,h1,h2]
    generalize slotB a.v=G at*
    go_wp2
    go_ret
    exact ⟨ret_bool HR.out.symm,b_3⟩
theorem deedOk_commit (n:Int) (tx prev:Int) (w:World):
  Calls Tryz.prog 128 #[.int .i64 n,iscommitDeed (linkD tx prev)] w fun e w'=>e=.returned (.bool (linkB n tx prev))∧Below w.heap.size w w':=by
 obtain ⟨W,hW,b0,hbW,hsW⟩:=boxes1 w [.int .i64 tx,.int .i64 prev] 178
 have HZ:Hid (∀ R,R=(linkB n tx prev)→R=(linkB n tx prev)):=fun _ h=>h
 simp only [iscommitDeed,linkD]
 have a_setDeed:=fun W=>no_setDeed W 178 (.agg #[.int .i64 tx,.int .i64 prev]) (by decide)
 have a_commitDeed:=fun W=>yes_commitDeed W (.agg #[.int .i64 tx,.int .i64 prev])
 have HX:Hid (∀ u,Below W.heap.size W u→Box u w.heap.size [.int .i64 tx,.int .i64 prev] 178):=fun u hu=>b0.below hu b0.lt
 obtain ⟨R,HQ⟩:∃ R,Hid (R=(linkB n tx prev)):=⟨_,rfl⟩
 rw [← HQ.out]
 clear hsW b0 HZ
 go_enter Tryz.func128,Tryz.ntmps128
 have x0:=(HX.out W (Below.refl _ _)).cell 0 _ rfl
 have x1:=(HX.out W (Below.refl _ _)).cell 1 _ rfl
 go_wp2_with fail
 rw [hW.out]
 clear hW
 have l0:Below W.heap.size W W:=Below.refl _ _
 refine (linkOk_any n tx prev W).mono ?_
 clear x0 x1
 rintro e u0 ⟨rfl,hb0⟩
 have b_0:Below w.heap.size w u0:=(hbW).trans (hb0.mono (hbW).size)
 have l_0:Below W.heap.size W u0:=(l0).trans (hb0.mono (l0).size)
 have x0:=(HX.out u0 (l_0)).cell 0 _ rfl
 have x1:=(HX.out u0 (l_0)).cell 1 _ rfl
 clear hb0
 have HR:Hid (R=linkB n tx prev):=HQ.out
 generalize linkB n tx prev=G at*
 go_wp2
 go_ret
 exact ⟨ret_bool HR.out.symm,b_0⟩
theorem deedOk_abort (n:Int) (tx prev:Int) (w:World):
  Calls Tryz.prog 128 #[.int .i64 n,isabortDeed (linkD tx prev)] w fun e w'=>e=.returned (.bool (linkB n tx prev))∧Below w.heap.size w w':=by
 obtain ⟨W,hW,b0,hbW,hsW⟩:=boxes1 w [.int .i64 tx,.int .i64 prev] 179
 have HZ:Hid (∀ R,R=(linkB n tx prev)→R=(linkB n tx prev)):=fun _ h=>h
 simp only [isabortDeed,linkD]
 have a_setDeed:=fun W=>no_setDeed W 179 (.agg #[.int .i64 tx,.int .i64 prev]) (by decide)
 have a_commitDeed:=fun W=>no_commitDeed W 179 (.agg #[.int .i64 tx,.int .i64 prev]) (by decide)
 have a_abortDeed:=fun W=>yes_abortDeed W (.agg #[.int .i64 tx,.int .i64 prev])
 have HX:Hid (∀ u,Below W.heap.size W u→Box u w.heap.size [.int .i64 tx,.int .i64 prev] 179):=fun u hu=>b0.below hu b0.lt
 obtain ⟨R,HQ⟩:∃ R,Hid (R=(linkB n tx prev)):=⟨_,rfl⟩
 rw [← HQ.out]
 clear hsW b0 HZ
 go_enter Tryz.func128,Tryz.ntmps128
 have x0:=(HX.out W (Below.refl _ _)).cell 0 _ rfl
 have x1:=(HX.out W (Below.refl _ _)).cell 1 _ rfl
 go_wp2_with fail
 rw [hW.out]
 clear hW
 have l0:Below W.heap.size W W:=Below.refl _ _
 refine (linkOk_any n tx prev W).mono ?_
 clear x0 x1
 rintro e u0 ⟨rfl,hb0⟩
 have b_0:Below w.heap.size w u0:=(hbW).trans (hb0.mono (hbW).size)
 have l_0:Below W.heap.size W u0:=(l0).trans (hb0.mono (l0).size)
 have x0:=(HX.out u0 (l_0)).cell 0 _ rfl
 have x1:=(HX.out u0 (l_0)).cell 1 _ rfl
 clear hb0
 have HR:Hid (R=linkB n tx prev):=HQ.out
 generalize linkB n tx prev=G at*
 go_wp2
 go_ret
 exact ⟨ret_bool HR.out.symm,b_0⟩
theorem deedOk_end (n:Int) (tx prev:Int) (w:World):
  Calls Tryz.prog 128 #[.int .i64 n,isendDeed (linkD tx prev)] w fun e w'=>e=.returned (.bool (linkB n tx prev))∧Below w.heap.size w w':=by
 obtain ⟨W,hW,b0,hbW,hsW⟩:=boxes1 w [.int .i64 tx,.int .i64 prev] 182
 have HZ:Hid (∀ R,R=(linkB n tx prev)→R=(linkB n tx prev)):=fun _ h=>h
 simp only [isendDeed,linkD]
 have a_setDeed:=fun W=>no_setDeed W 182 (.agg #[.int .i64 tx,.int .i64 prev]) (by decide)
 have a_commitDeed:=fun W=>no_commitDeed W 182 (.agg #[.int .i64 tx,.int .i64 prev]) (by decide)
 have a_abortDeed:=fun W=>no_abortDeed W 182 (.agg #[.int .i64 tx,.int .i64 prev]) (by decide)
 have a_backDeed:=fun W=>no_backDeed W 182 (.agg #[.int .i64 tx,.int .i64 prev]) (by decide)
 have a_endDeed:=fun W=>yes_endDeed W (.agg #[.int .i64 tx,.int .i64 prev])
 have HX:Hid (∀ u,Below W.heap.size W u→Box u w.heap.size [.int .i64 tx,.int .i64 prev] 182):=fun u hu=>b0.below hu b0.lt
 obtain ⟨R,HQ⟩:∃ R,Hid (R=(linkB n tx prev)):=⟨_,rfl⟩
 rw [← HQ.out]
 clear hsW b0 HZ
 go_enter Tryz.func128,Tryz.ntmps128
 have x0:=(HX.out W (Below.refl _ _)).cell 0 _ rfl
 have x1:=(HX.out W (Below.refl _ _)).cell 1 _ rfl
 go_wp2_with fail
 rw [hW.out]
 clear hW
 have l0:Below W.heap.size W W:=Below.refl _ _
 refine (linkOk_any n tx prev W).mono ?_
 clear x0 x1
 rintro e u0 ⟨rfl,hb0⟩
 have b_0:Below w.heap.size w u0:=(hbW).trans (hb0.mono (hbW).size)
 have l_0:Below W.heap.size W u0:=(l0).trans (hb0.mono (l0).size)
 have x0:=(HX.out u0 (l_0)).cell 0 _ rfl
 have x1:=(HX.out u0 (l_0)).cell 1 _ rfl
 clear hb0
 have HR:Hid (R=linkB n tx prev):=HQ.out
 generalize linkB n tx prev=G at*
 go_wp2
 go_ret
 exact ⟨ret_bool HR.out.symm,b_0⟩
theorem deedOk_back (n:Int) (tx prev oid:Int) (a:SlotA) (next:Int) (w:World) (hg:ErrT w) (ha:a.reads w) (hla:Fit [a]):
  Calls Tryz.prog 128 #[.int .i64 n,isbackDeed (backD tx prev oid a next)] w fun e w'=>e=.returned (.bool (linkB n tx prev && (inB oid 1 31 && (slotB a.v && (inB next 0 (n-1))))))∧Below w.heap.size w w':=by
 obtain ⟨W,hW,b0,hbW,hsW⟩:=boxes1 w [.int .i64 tx,.int .i64 prev,.int .i64 oid,.bool a.v.has,.int .i64 a.v.o.kind,.slice a.aI a.v.o.ints.length a.cI,.slice a.aR a.v.o.refs.length a.cR,.int .i64 next] 181
 have HZ:Hid (∀ R,R=(linkB n tx prev && (inB oid 1 31 && (slotB a.v && (inB next 0 (n-1)))))→R=(linkB n tx prev && (inB oid 1 31 && (slotB a.v && (inB next 0 (n-1)))))):=fun _ h=>h
 simp only [isbackDeed,backD]
 have a_setDeed:=fun W=>no_setDeed W 181 (.agg #[.int .i64 tx,.int .i64 prev,.int .i64 oid,.bool a.v.has,.int .i64 a.v.o.kind,.slice a.aI a.v.o.ints.length a.cI,.slice a.aR a.v.o.refs.length a.cR,.int .i64 next]) (by decide)
 have a_commitDeed:=fun W=>no_commitDeed W 181 (.agg #[.int .i64 tx,.int .i64 prev,.int .i64 oid,.bool a.v.has,.int .i64 a.v.o.kind,.slice a.aI a.v.o.ints.length a.cI,.slice a.aR a.v.o.refs.length a.cR,.int .i64 next]) (by decide)
 have a_abortDeed:=fun W=>no_abortDeed W 181 (.agg #[.int .i64 tx,.int .i64 prev,.int .i64 oid,.bool a.v.has,.int .i64 a.v.o.kind,.slice a.aI a.v.o.ints.length a.cI,.slice a.aR a.v.o.refs.length a.cR,.int .i64 next]) (by decide)
 have a_backDeed:=fun W=>yes_backDeed W (.agg #[.int .i64 tx,.int .i64 prev,.int .i64 oid,.bool a.v.has,.int .i64 a.v.o.kind,.slice a.aI a.v.o.ints.length a.cI,.slice a.aR a.v.o.refs.length a.cR,.int .i64 next])
 have HX:Hid (∀ u,Below W.heap.size W u→Box u w.heap.size [.int .i64 tx,.int .i64 prev,.int .i64 oid,.bool a.v.has,.int .i64 a.v.o.kind,.slice a.aI a.v.o.ints.length a.cI,.slice a.aR a.v.o.refs.length a.cR,.int .i64 next] 181):=fun u hu=>b0.below hu b0.lt
 obtain ⟨R,HQ⟩:∃ R,Hid (R=(linkB n tx prev && (inB oid 1 31 && (slotB a.v && (inB next 0 (n-1)))))):=⟨_,rfl⟩
 rw [← HQ.out]
 clear hsW b0 HZ
 go_enter Tryz.func128,Tryz.ntmps128
 have x0:=(HX.out W (Below.refl _ _)).cell 0 _ rfl
 have x1:=(HX.out W (Below.refl _ _)).cell 1 _ rfl
 have x2:=(HX.out W (Below.refl _ _)).cell 2 _ rfl
 have x3:=(HX.out W (Below.refl _ _)).cell 3 _ rfl
 have x4:=(HX.out W (Below.refl _ _)).cell 4 _ rfl
 have x5:=(HX.out W (Below.refl _ _)).cell 5 _ rfl
 have x6:=(HX.out W (Below.refl _ _)).cell 6 _ rfl
 have x7:=(HX.out W (Below.refl _ _)).cell 7 _ rfl
 go_wp2_with fail
 rw [hW.out]
 clear hW
 have l0:Below W.heap.size W W:=Below.refl _ _
 refine (linkOk_any n tx prev W).mono ?_
 clear x0 x1 x2 x3 x4 x5 x6 x7
 rintro e u0 ⟨rfl,hb0⟩
 have b_0:Below w.heap.size w u0:=(hbW).trans (hb0.mono (hbW).size)
 have l_0:Below W.heap.size W u0:=(l0).trans (hb0.mono (l0).size)
 have x0:=(HX.out u0 (l_0)).cell 0 _ rfl
 have x1:=(HX.out u0 (l_0)).cell 1 _ rfl
 have x2:=(HX.out u0 (l_0)).cell 2 _ rfl
 have x3:=(HX.out u0 (l_0)).cell 3 _ rfl
 have x4:=(HX.out u0 (l_0)).cell 4 _ rfl
 have x5:=(HX.out u0 (l_0)).cell 5 _ rfl
 have x6:=(HX.out u0 (l_0)).cell 6 _ rfl
 have x7:=(HX.out u0 (l_0)).cell 7 _ rfl
 clear hb0
 cases h0:linkB n tx prev with
 | false=>
  have HR:Hid (R=false):=by rw [Hid,HQ.out];simp [h0]
  go_wp2
  go_ret
  exact ⟨ret_bool HR.out.symm,b_0⟩
 | true=>
  go_wp2_with fail
  refine (oidOk_any oid u0).mono ?_
  rintro e v ⟨rfl,hv⟩
  rw [hv]
  clear hv v
  cases h1:inB oid 1 31 with
  | false=>
   have HR:Hid (R=false):=by rw [Hid,HQ.out];simp [h0,h1]
   go_wp2
   go_ret
   exact ⟨ret_bool HR.out.symm,b_0⟩
  | true=>
   go_wp2_with fail
   refine (slotOk_any a u0 (hg.keep (b_0)) (ReadsO.below ha (b_0)) hla).mono ?_
   clear x0 x1 x2 x3 x4 x5 x6 x7
   rintro e u2 ⟨rfl,hb2⟩
   have b_2:Below w.heap.size w u2:=(b_0).trans (hb2.mono (b_0).size)
   have l_2:Below W.heap.size W u2:=(l_0).trans (hb2.mono (l_0).size)
   have x0:=(HX.out u2 (l_2)).cell 0 _ rfl
   have x1:=(HX.out u2 (l_2)).cell 1 _ rfl
   have x2:=(HX.out u2 (l_2)).cell 2 _ rfl
   have x3:=(HX.out u2 (l_2)).cell 3 _ rfl
   have x4:=(HX.out u2 (l_2)).cell 4 _ rfl
   have x5:=(HX.out u2 (l_2)).cell 5 _ rfl
   have x6:=(HX.out u2 (l_2)).cell 6 _ rfl
   have x7:=(HX.out u2 (l_2)).cell 7 _ rfl
   clear hb2
   cases h2:slotB a.v with
   | false=>
    have HR:Hid (R=false):=by rw [Hid,HQ.out];simp [h0,h1,h2]
    go_wp2
    go_ret
    exact ⟨ret_bool HR.out.symm,b_2⟩
   | true=>
    go_wp2_with fail
    refine (isAhead_any n next u2).mono ?_
    rintro e v ⟨rfl,hv⟩
    rw [hv]
    clear hv v
    have HR:Hid (R=inB next 0 (n-1)):=by rw [Hid,HQ.out];simp [h0,h1,h2]
    generalize inB next 0 (n-1)=G at*
    go_wp2
    go_ret
    exact ⟨ret_bool HR.out.symm,b_2⟩
theorem deedOk_check (n:Int) (ls:List LiveV) (aL:Option Addr) (cL:Nat) (w:World) (hr:ReadsL w aL ls) (hl:ls.length≤1099511627776):
  Calls Tryz.prog 128 #[.int .i64 n,ischeckDeed (checkD ls aL cL)] w fun e w'=>e=.returned (.bool (livesB n ls))∧Below w.heap.size w w':=by
 obtain ⟨W,hW,b0,hbW,hsW⟩:=boxes1 w [.slice aL ls.length cL] 184
 have HZ:Hid (∀ R,R=(livesB n ls)→R=(livesB n ls)):=fun _ h=>h
 simp only [ischeckDeed,checkD]
 have a_setDeed:=fun W=>no_setDeed W 184 (.agg #[.slice aL ls.length cL]) (by decide)
 have a_commitDeed:=fun W=>no_commitDeed W 184 (.agg #[.slice aL ls.length cL]) (by decide)
 have a_abortDeed:=fun W=>no_abortDeed W 184 (.agg #[.slice aL ls.length cL]) (by decide)
 have a_backDeed:=fun W=>no_backDeed W 184 (.agg #[.slice aL ls.length cL]) (by decide)
 have a_endDeed:=fun W=>no_endDeed W 184 (.agg #[.slice aL ls.length cL]) (by decide)
 have a_checkDeed:=fun W=>yes_checkDeed W (.agg #[.slice aL ls.length cL])
 have HX:Hid (∀ u,Below W.heap.size W u→Box u w.heap.size [.slice aL ls.length cL] 184):=fun u hu=>b0.below hu b0.lt
 obtain ⟨R,HQ⟩:∃ R,Hid (R=(livesB n ls)):=⟨_,rfl⟩
 rw [← HQ.out]
 clear hsW b0 HZ
 go_enter Tryz.func128,Tryz.ntmps128
 have x0:=(HX.out W (Below.refl _ _)).cell 0 _ rfl
 go_wp2_with fail
 rw [hW.out]
 clear hW
 have l0:Below W.heap.size W W:=Below.refl _ _
 refine (livesOk_any n aL cL ls W (hr.below (hbW)) hl).mono ?_
 clear x0
 rintro e u0 ⟨rfl,hb0⟩
 have b_0:Below w.heap.size w u0:=(hbW).trans (hb0.mono (hbW).size)
 have l_0:Below W.heap.size W u0:=(l0).trans (hb0.mono (l0).size)
 have x0:=(HX.out u0 (l_0)).cell 0 _ rfl
 clear hb0
 have HR:Hid (R=livesB n ls):=HQ.out
 generalize livesB n ls=G at*
 go_wp2
 go_ret
 exact ⟨ret_bool HR.out.symm,b_0⟩
theorem deedOk_nil (n:Int) (w:World):Calls Tryz.prog 128 #[.int .i64 n,.nilIface] w fun e w'=>e=.returned (.bool false)∧Below w.heap.size w w':=by
 have a_setDeed:=nil_setDeed
 have a_commitDeed:=nil_commitDeed
 have a_abortDeed:=nil_abortDeed
 have a_backDeed:=nil_backDeed
 have a_endDeed:=nil_endDeed
 have a_checkDeed:=nil_checkDeed
 go_enter Tryz.func128,Tryz.ntmps128
 go_wp2
 go_ret
 exact ⟨rfl,Below.refl _ _⟩
end Go.Proofs.YtcoeamamaifoeaaGreatDoor