/- Several texts in one, in their order. -/
import Derived.Test.YtfehemepdoomdaaGreatDoorPCommitx1
import Derived.Test.YtfehemepdoomdaaGreatDoorPCommitx3
import Derived.Test.YtfehemepdoomdaaGreatDoorPCommitx2
import Derived.Deep.RegionHeld3
import Derived.Deep.QuietTactic
import Derived.BigQuiet
import Derived.Deep.AppendLies
import Derived.Laws.AppendOwnNone
import Derived.Laws.CopyOwn
import Derived.Deep.RegionHeld
import Derived.MapKept
import Derived.Maps.Own
set_option maxHeartbeats 8000000
set_option maxRecDepth 100000
namespace Go.Proofs.YtfehemepdoomdaaGreatDoor
open Go.RowKit
theorem toPage_own (p:PageA) (h4:p.ss.length=4) (w:World) (hr:ReadsS w p.ss) (hl:∀ s∈p.ss,s.v.o.ints.length≤1099511627776∧s.v.o.refs.length≤1099511627776):
  Calls Tryz.prog 53 #[.agg p.cells.toArray] w fun e w'=>∃ ts:List SlotA,e=.returned (.agg (PageA.cells ⟨p.lsn,ts⟩).toArray)∧Hid (ts.map (·.v)=p.ss.map (·.v))∧OwnS w' w.heap.size w'.heap.size ts∧Below w.heap.size w w':=by
 obtain ⟨n,ss⟩:=p
 simp only [PageA.cells] at*
 obtain ⟨W,hW,b0,b1,b2,hbW,hsW⟩:=boxes3 w (.int .i64 n::cellsS ss) [.int .i64 0,.bool false,.int .i64 0,.slice none 0 0,.slice none 0 0,.bool false,.int .i64 0,.slice none 0 0,.slice none 0 0,.bool false,.int .i64 0,.slice none 0 0,.slice none 0 0,.bool false,.int .i64 0,.slice none 0 0,.slice none 0 0] [.int .i64 n,.bool false,.int .i64 0,.slice none 0 0,.slice none 0 0,.bool false,.int .i64 0,.slice none 0 0,.slice none 0 0,.bool false,.int .i64 0,.slice none 0 0,.slice none 0 0,.bool false,.int .i64 0,.slice none 0 0,.slice none 0 0] 29 47 47
 have b1':Box W (w.heap.size+1) ([]++((.int .i64 0::cellsS zero4)++[])) 47:=b1
 have b2':Box W (w.heap.size+1+1) ([.int .i64 n]++(cellsS zero4++[])) 47:=b2
 have hsW':w.heap.size+1+1<W.heap.size:=by omega
 clear b1 b2 hsW
 have hc0:=(box_new w (.int .i64 n::cellsS ss) 29).cell 0 _ rfl
 have hrg0:W.rangeAt w.heap.size 1 (cellsS ss):=Box.range [.int .i64 n] (cellsS ss) [] (by simpa using b0)
 have hi0:(Tryz.prog.info? 27).map (·.size)=some (cellsS ss).length:=by rw [cellsS_len,h4];kernel_rfl
 go_enter Tryz.func53,Tryz.ntmps53
 go_wp2_with (first | (guard_target=wpList _ _ _ (Oper.mk (some 8) _ _ _ _ _::_) _ _;refine wpList_load_mid rfl 27 (.tmp 7) rfl w.heap.size 1 rfl (cellsS ss) _ (by rw [hW.out];exact hrg0) Tryz.underlying27 rfl hi0 ?_) | fail)
 rw [hW.out]
 clear hW hrg0 hi0 hc0
 refine (toSlotA4_own ss h4 W (hr.below hbW) hl).mono ?_
 rintro e w1 ⟨ts,rfl,hv,ho,hb1⟩
 have htl:ts.length=4:=by have:=congrArg List.length hv.out;simp only [List.length_map] at this;omega
 have hs1:=hb1.size
 have b11:=b1'.below hb1 b1'.lt
 have b21:=b2'.below hb1 b2'.lt
 obtain ⟨W2,hW2,b22,hw2,hs2⟩:=range_fill [.int .i64 n] (cellsS zero4) (cellsS ts) [] b21 (by rw [cellsS_len,cellsS_len,htl];rfl)
 have hW2':w1.setCells (w.heap.size+1+1) 1 (cellsS ts)=W2:=hW2.out
 have b12:=b11.within hw2 (by omega)
 obtain ⟨WF,hWF,bF,hwF,hsF⟩:=range_fill [] (.int .i64 0::cellsS zero4) (.int .i64 n::cellsS ts) [] b12 (by simp only [List.length_cons,cellsS_len,htl];rfl)
 have hWF':W2.setCells (w.heap.size+1) 0 (.int .i64 n::cellsS ts)=WF:=hWF.out
 have ht2:w1.there (w.heap.size+1+1) 1 (cellsS ts).toArray.size:=b21.there 1 _ (by simp only [List.size_toArray,cellsS_len,htl,List.length_append,List.length_cons,List.length_nil];decide)
 have hr2:W2.rangeAt (w.heap.size+1+1) 0 (.int .i64 n::cellsS ts):=Box.range [] (.int .i64 n::cellsS ts) [] (by simpa using b22)
 have htF:W2.there (w.heap.size+1) 0 (.int .i64 n::cellsS ts).toArray.size:=b12.there 0 _ (by simp only [List.size_toArray,cellsS_len,htl,List.length_append,List.length_cons,List.length_nil];decide)
 have hrF:WF.rangeAt (w.heap.size+1) 0 (.int .i64 n::cellsS ts):=Box.range [] (.int .i64 n::cellsS ts) [] (by simpa using bF)
 have hi4:(Tryz.prog.info? 45).map (·.size)=some (cellsS ts).toArray.size:=by rw [List.size_toArray,cellsS_len,htl];kernel_rfl
 have hi7:(Tryz.prog.info? 47).map (·.size)=some (.int .i64 n::cellsS ts).length:=by rw [List.length_cons,cellsS_len,htl];kernel_rfl
 have h1S:=all_oneCell_toArray (oneS ts)
 have h1P:=all_oneCell_toArray (oneP ⟨n,ts⟩)
 simp only [PageA.cells] at h1P
 have hlF:=run_loadVar_mid (P:=Tryz.prog) WF (w.heap.size+1) 0 47 (.int .i64 n::cellsS ts) _ hrF Tryz.underlying47 rfl hi7
 have hbF:Below w.heap.size w WF:=((hbW.trans (hb1.mono (by omega))).trans (hw2.below (by omega) (by omega))).trans (hwF.below (by omega) (by omega))
 have hoF:OwnS WF w.heap.size WF.heap.size ts:=((ho.within hw2 (.inr (by omega))).within hwF (.inr (by omega))).widen (by omega) (by omega) (Nat.le_refl _)
 have HF:Hid (_∧_∧_):=⟨hlF,hbF,hoF⟩
 have HA:Hid (_∧_∧_):=⟨ht2,hr2,htF⟩
 have HI:Hid (_∧_):=⟨hi4,hi7⟩
 have HO:Hid (_∧_):=⟨h1S,h1P⟩
 have HW2:Hid (_=_):=hW2'
 have HWF:Hid (_=_):=hWF'
 clear hlF hbF hoF ht2 hr2 htF hi4 hi7 h1S h1P hW2' hWF' hrF hs2 hsF hw2 hwF b22 b12 b11 b21 bF hW2 hWF b0 b1' b2' hb1 hbW htl
 go_wp2_with (first | (guard_target=wpList _ _ _ (Oper.mk none (Op.store _ (Operand.tmp 10) _) _ _ _ _::_) _ _;refine wpList_store_mid rfl 45 (.tmp 10) (.tmp 9) rfl (w.heap.size+1+1) 1 (cellsS ts).toArray rfl rfl HA.out.1 HI.out.1 HO.out.1 ?_) | (guard_target=wpList _ _ _ (Oper.mk (some 11) _ _ _ _ _::_) _ _;refine wpList_load_mid rfl 47 (.tmp 3) rfl (w.heap.size+1+1) 0 rfl (.int .i64 n::cellsS ts) _ (by rw [HW2.out];exact HA.out.2.1) Tryz.underlying47 rfl HI.out.2 ?_) | (guard_target=wpList _ _ _ (Oper.mk none (Op.store _ (Operand.tmp 2) _) _ _ _ _::_) _ _;refine wpList_store_mid rfl 47 (.tmp 2) (.tmp 11) rfl (w.heap.size+1) 0 (.int .i64 n::cellsS ts).toArray rfl rfl (by rw [HW2.out];exact HA.out.2.2) (by rw [List.size_toArray];exact HI.out.2) HO.out.2 ?_) | fail)
 rw [HW2.out,HWF.out]
 exact bodyPost_ret (v:=.agg (.int .i64 n::cellsS ts).toArray) (results_one Tryz.results53 rfl HF.out.1) rfl ⟨ts,rfl,hv,HF.out.2.2,HF.out.2.1⟩
structure Bd (r:RecV):Prop where
 lsn:1≤r.lsn∧r.lsn≤1000000
 bf:slotB r.bf=true
 af:slotB r.af=true
 tx:0≤r.tx∧r.tx≤1000
 prev:0≤r.prev∧r.prev<r.lsn
 kind:1≤r.kind∧r.kind≤6
 oid:0≤r.oid∧r.oid≤31
 next:0≤r.next∧r.next<r.lsn
 txs:r.txs.length≤20
 each:∀ t∈r.txs,(1≤t.tx∧t.tx≤1000)∧(1≤t.last∧t.last<r.lsn)
def noR:RecV:=⟨0,0,0,0,0,noS,noS,0,[]⟩
theorem equalInts_any (a b:Option Addr) (ca cb:Nat) (xs ys:List Int) (w:World) (ha:ReadsI w a xs) (hb:ReadsI w b ys) (hl:xs.length≤1099511627776) (hl2:ys.length≤1099511627776):
  Calls Tryz.prog 195 #[.slice a xs.length ca,.slice b ys.length cb] w fun e w'=>e=.returned (.bool (decide (xs=ys)))∧∃ n,w'=w.drewN n:=by
 by_cases hle:xs.length=ys.length
 case neg=>
  have HE:Hid (_=_):=ne_len hle
  have hle':((xs.length:Int) == (ys.length:Int))=false:=by simp;omega
  go_enter Tryz.func195,Tryz.ntmps195
  go_wp2
  go_ret
  exact ⟨ret_bool HE.out.symm,0,rfl⟩
 case pos=>
 have HL:Hid (xs.length=ys.length):=hle
 have hle':((xs.length:Int) == (ys.length:Int))=true:=by simp;omega
 rcases ha.cases with rfl | ⟨b1,o1,rfl,hpos,hc1⟩
 ·obtain rfl:ys=[]:=List.length_eq_zero_iff.1 (by simpa using hle.symm)
  have HE:Hid (decide (([]:List Int)=[])=true):=by simp [Hid]
  clear hle hle' HL
  go_enter Tryz.func195,Tryz.ntmps195
  go_wp2
  refine wp_loop_rounds 1 ?_
  rw [rounds_succ]
  go_wp2
  go_ret
  exact ⟨ret_bool HE.out.symm,0,rfl⟩
 ·rcases hb.cases with rfl | ⟨b2,o2,rfl,_,hc2⟩
  ·simp at hle;simp [hle] at hpos
  ·clear hle
   go_enter Tryz.func195,Tryz.ntmps195
   go_wp2
   go_loopw [13] (fun i wr=>∃ k:Nat,k≤xs.length∧i=.int .i64 k∧Hid (∀ t,t<k→xs.getD t 0=ys.getD t 0)∧∃ n,wr=w.drewN n) (fun i _=>xs.length-(RowKit.intOf i).toNat)
   case atStart=>exact ⟨0,Nat.zero_le _,rfl,fun t ht=>by omega,0,rfl⟩
   case round=>
    obtain ⟨k,hk,rfl,hall,n,rfl⟩:=hrel
    by_cases hlt:k<xs.length
    ·have h1:=hc1 k hlt
     have h2:=hc2 k (by have:=HL.out;omega)
     have hlt2:(k:Int)<(ys.length:Int):=by have:=HL.out;omega
     clear hc1 hc2
     by_cases hz:xs.getD k 0=ys.getD k 0
     ·have HN:Hid (∀ t,t<k+1→xs.getD t 0=ys.getD t 0):=by
       intro t ht
       by_cases e:t=k
       ·rw [e];exact hz
       ·exact hall.out t (by omega)
      rw [← hz] at h2
      clear hz
      generalize xs.getD k 0=z at*
      go_wp2
      go_quiet (fail)
      go_wp2
      go_roundw
      case rel=>exact ⟨k+1,by omega,by go_num,HN,_,rfl⟩
      case measure=>simp [RowKit.intOf];omega
     ·have HE:Hid (_=_):=ne_at k hz
      have hzb:(xs.getD k 0 == ys.getD k 0)=false:=by simpa using hz
      clear hz
      generalize xs.getD k 0=z at*
      generalize ys.getD k 0=y at*
      go_wp2
      go_quiet (fail)
      go_wp2
      go_ret
      exact ⟨ret_bool HE.out.symm,n+nq,by first | rfl | simp⟩
    ·have HE:Hid (_=_):=eq_all HL.out (fun t ht=>hall.out t (by omega))
     go_wp2
     go_ret
     exact ⟨ret_bool HE.out.symm,n,rfl⟩
theorem implSameObj_any (o p:ObjV) (aI:Option Addr) (cI:Nat) (aR:Option Addr) (cR:Nat) (bI:Option Addr) (dI:Nat) (bR:Option Addr) (dR:Nat) (w:World) (ha:ReadsO w aI cI aR cR o) (hb:ReadsO w bI dI bR dR p) (h1:o.ints.length≤1099511627776) (h2:o.refs.length≤1099511627776) (h3:p.ints.length≤1099511627776) (h4:p.refs.length≤1099511627776):
  Calls Tryz.prog 173 #[.agg #[.int .i64 o.kind,.slice aI o.ints.length cI,.slice aR o.refs.length cR],.agg #[.int .i64 p.kind,.slice bI p.ints.length dI,.slice bR p.refs.length dR]] w fun e w'=>e=.returned (.bool (sameO o p))∧Below w.heap.size w w':=by
 obtain ⟨k,ints,refs⟩:=o
 obtain ⟨k',ints',refs'⟩:=p
 obtain ⟨haI,haR,_,_⟩:=ha
 obtain ⟨hbI,hbR,_,_⟩:=hb
 simp only at*
 obtain ⟨W,hW,b0,b1,hbW,hsW⟩:=boxes2 w [.int .i64 k,.slice aI ints.length cI,.slice aR refs.length cR] [.int .i64 k',.slice bI ints'.length dI,.slice bR refs'.length dR] 42 42
 by_cases hk:k=k'
 case neg=>
  have HE:Hid (sameO ⟨k,ints,refs⟩ ⟨k',ints',refs'⟩=false):=by simp [Hid,sameO,hk]
  have hkb:(k == k')=false:=by simpa using hk
  clear hk
  go_enter Tryz.func173,Tryz.ntmps173
  go_wp2
  go_ret
  exact ⟨ret_bool HE.out.symm,by rw [hW.out];exact hbW⟩
 case pos=>
 subst hk
 have HE:Hid (sameO ⟨k,ints,refs⟩ ⟨k,ints',refs'⟩=(decide (ints=ints') && decide (refs=refs'))):=by simp [Hid,sameO]
 go_enter Tryz.func173,Tryz.ntmps173
 go_wp2_with fail
 rw [hW.out]
 refine (equalInts_any aI bI cI dI ints ints' W (haI.below hbW) (hbI.below hbW) h1 h3).mono ?_
 rintro e w1 ⟨rfl,n1,rfl⟩
 have c0:=(b0.drewN n1).cell 2 _ rfl
 have c1:=(b1.drewN n1).cell 2 _ rfl
 have hb1:Below w.heap.size w (W.drewN n1):=below_drewN hbW n1
 cases hd:decide (ints=ints') with
 | false=>
  rw [hd] at HE
  clear hd
  go_wp2
  go_ret
  exact ⟨ret_bool (by rw [HE.out];rfl),hb1⟩
 | true=>
  rw [hd] at HE
  clear hd
  go_wp2_with fail
  refine (equalInts_any aR bR cR dR refs refs' (W.drewN n1) (haR.below hb1) (hbR.below hb1) h2 h4).mono ?_
  rintro e w2 ⟨rfl,n2,rfl⟩
  generalize decide (refs=refs')=D at*
  go_wp2
  go_ret
  exact ⟨ret_bool (by rw [HE.out];rfl),below_drewN hbW (n1+n2)⟩
theorem lives_oneCell (zs:List LiveV):∀ v∈cellsL zs,v.oneCell'=true:=by
 intro v hv
 obtain ⟨s,_,hs⟩:=List.mem_flatMap.1 hv
 simp only [LiveV.cells,List.mem_cons,List.not_mem_nil,or_false] at hs
 rcases hs with rfl | rfl | rfl<;>rfl
theorem append_lives {w:World} {ops:Array Oper} {rest:List Oper} {o:Oper} {act:Act} {Q:Exit→Act→World→Prop} (hgd:o.guard=none) (s x:Operand)
  (ho:o.op=.call { callee:=.builtin .append,args:=#[s,x],argTypes:=#[55,55] })
  (lo hi:Nat) (a:Option Addr) (c:Nat) (xs:List LiveV) (hs:act.eval s=.slice a xs.length c) (hown:OwnL w lo hi a c xs)
  (sa:Option Addr) (sc:Nat) (zs:List LiveV) (hx:act.eval x=.slice sa zs.length sc) (hr:ReadsL w sa zs) (hc:sa=none→sc=0)
  (hb:xs.length+zs.length≤1099511627776) (hlo:lo≤w.heap.size)
  (h:∀ a' c' ys w',Hid (ys=xs++zs)→OwnL w' lo w'.heap.size a' c' ys→w.grownBy w' (Value.slice a xs.length c).ownBlock→wpList Tryz.prog ops Q rest (act.put o.dst (.slice a' ys.length c')) w'):
  wpList Tryz.prog ops Q (o::rest) act w:=by
 obtain ⟨i0,hi0,hz0,hz1,hz2⟩:=info_parts Tryz.infoLive
 have fin:∀ v' w',w'.ownsRow lo 106 3 v' (xs.length+zs.length) (cellsL xs++cellsL zs)→w.grownBy w' (Value.slice a xs.length c).ownBlock→wpList Tryz.prog ops Q rest (act.put o.dst v') w':=by
  intro v' w' h1 h2
  rw [← cellsL_app,← List.length_append] at h1
  have sh:∃ a' c',v'=.slice a' (xs++zs).length c':=by
   rcases h1.2 with ⟨rfl,h0⟩ | ⟨g,cap,cur,rfl,_⟩
   ·exact ⟨none,0,by rw [h0]⟩
   ·exact ⟨_,_,rfl⟩
  obtain ⟨a',c',rfl⟩:=sh
  exact h a' c' (xs++zs) w' rfl ⟨h1,Nat.le_refl _,fun k hk=>(h1.lt k hk).2⟩ h2
 cases sa with
 | none=>
  have hz:zs=[]:=by
   by_cases e:zs=[]
   ·exact e
   ·obtain ⟨b,off,hh,_⟩:=hr e
    cases hh
  subst hz
  have:=hc rfl
  subst this
  exact wpList_append_own_none hgd s x 55 ho lo 106 i0 3 Tryz.underlying55 hi0 _ _ _ hs hown.1 hx (fin _ w (by simpa [cellsL] using hown.1) (World.grownBy.refl _ _))
 | some ad=>
  refine wpList_append_own w hgd s x 55 ho lo 106 i0 (.agg #[.int .i64 0,.int .i64 0,.bool false]) 3 24 Tryz.underlying55 hi0 hz0 hz1 hz2 rfl (by decide) _ _ _ hs hown.1 ad zs.length sc (cellsL zs) hx (by rw [cellsL_len]) ?_ (lives_oneCell _) (by simp only [maxLen];omega) (by omega) hlo (fun v' w' h1 h2 _=>fin v' w' h1 h2)
  intro j u hj
  have hjl:j<zs.length*3:=by rw [← cellsL_len];exact (List.getElem?_eq_some_iff.1 hj).1
  have hne:zs≠[]:=by intro e;simp [e] at hjl
  obtain ⟨b,off,hh,hcell⟩:=hr hne
  cases hh
  have hat:=cellsL_at zs (j / 3) (j % 3) (by omega) (Nat.mod_lt _ (by omega))
  rw [show j / 3*3+j % 3=j by omega,hj] at hat
  obtain ⟨k0,k1,k2⟩:=hcell (j / 3) (by omega)
  rw [Addr_add]
  rcases (by omega:j % 3=0∨j % 3=1∨j % 3=2) with h' | h' | h'<;>rw [h'] at hat<;>simp only [LiveV.cells,List.getElem?_cons_zero,List.getElem?_cons_succ,Option.some.injEq] at hat
  ·rw [show off+j=off+j / 3*3 by omega,k0,hat]
  ·rw [show off+j=off+j / 3*3+1 by omega,k1,hat]
  ·rw [show off+j=off+j / 3*3+2 by omega,k2,hat]
theorem readsL_one (w:World) (z:LiveV) (t:TypeId):ReadsL (w.alloc (.cells #[.int .i64 z.tx,.int .i64 z.last,.bool z.aborts] t)) (some ⟨w.heap.size,0,none⟩) [z]:=by
 intro _
 refine ⟨w.heap.size,0,rfl,fun k hk=>?_⟩
 obtain rfl:k=0:=by simpa using hk
 have b:Box (w.alloc (.cells #[.int .i64 z.tx,.int .i64 z.last,.bool z.aborts] t)) w.heap.size [.int .i64 z.tx,.int .i64 z.last,.bool z.aborts] t:=box_new _ _ _
 exact ⟨b.cell 0 _ rfl,b.cell 1 _ rfl,b.cell 2 _ rfl⟩
structure HoldV where
 tx:Int
 oid:Int
def HoldV.cells (l:HoldV):List Value:=[.int .i64 l.tx,.int .i64 l.oid]
def zeroH:HoldV:=⟨0,0⟩
def cellsH (ls:List HoldV):List Value:=ls.flatMap HoldV.cells
theorem cellsH_len (ls:List HoldV):(cellsH ls).length=ls.length*2:=by
 induction ls with
 | nil=>rfl
 | cons s r ih=>simp only [cellsH,List.flatMap_cons,List.length_append,HoldV.cells,List.length_cons,List.length_nil] at *;omega
theorem cellsH_app (a b:List HoldV):cellsH (a++b)=cellsH a++cellsH b:=by simp [cellsH]
theorem cellsH_at (ls:List HoldV) (k j:Nat) (hk:k<ls.length) (hj:j<2):(cellsH ls)[k*2+j]? =(ls.getD k zeroH).cells[j]? :=by
 induction ls generalizing k with
 | nil=>simp at hk
 | cons s r ih=>
  have e:cellsH (s::r)=s.cells++cellsH r:=by simp [cellsH]
  have l3:s.cells.length=2:=rfl
  rw [e]
  cases k with
  | zero=>rw [List.getElem?_append_left (by rw [l3];omega)];simp
  | succ k=>
   rw [List.getElem?_append_right (by rw [l3];omega),l3]
   have:=ih k (by simpa using hk)
   rw [show (k+1)*2+j-2=k*2+j by omega,this]
   simp
theorem cellsH_set (ls:List HoldV) (k:Nat) (hk:k<ls.length) (t:HoldV):
  ((cellsH ls).set (k*2) (.int .i64 t.tx)).set (k*2+1) (.int .i64 t.oid)=cellsH (ls.set k t):=by
 induction ls generalizing k with
 | nil=>simp at hk
 | cons s r ih=>
  cases k with
  | zero=>simp [cellsH,HoldV.cells]
  | succ k=>
   have:=ih k (by simpa using hk)
   have e2:∀ x,cellsH (s::x)=s.cells++cellsH x:=fun x=>by simp [cellsH]
   have l3:s.cells.length=2:=rfl
   rw [e2,List.set_append_right _ _ (by rw [l3];omega),List.set_append_right _ _ (by rw [l3];omega),l3,show (k+1)*2-2=k*2 by omega,show (k+1)*2+1-2=k*2+1 by omega,this,List.set_cons_succ,e2]
def ReadsH (w:World) (a:Option Addr) (ls:List HoldV):Prop:=ls≠[]→∃ b off,a=some ⟨b,off,none⟩∧∀ k,k<ls.length→w.cell? ⟨b,off+k*2,none⟩=some (.int .i64 (ls.getD k zeroH).tx)∧w.cell? ⟨b,off+k*2+1,none⟩=some (.int .i64 (ls.getD k zeroH).oid)
theorem ReadsH.nil (w:World) (a:Option Addr):ReadsH w a []:=fun h=>absurd rfl h
theorem ReadsH.below {w w':World} {a:Option Addr} {ls:List HoldV} (h:ReadsH w a ls) (hb:Below w.heap.size w w'):ReadsH w' a ls:=by
 intro hne
 obtain ⟨b,off,ha,hc⟩:=h hne
 refine ⟨b,off,ha,fun k hk=>?_⟩
 obtain ⟨h0,h1⟩:=hc k hk
 have hlt:=block_lt h0
 exact ⟨by rw [hb.cell (p:=⟨b,off+k*2,none⟩) hlt];exact h0,by rw [hb.cell (p:=⟨b,off+k*2+1,none⟩) hlt];exact h1⟩
theorem ReadsH.cases {w:World} {a:Option Addr} {ls:List HoldV} (h:ReadsH w a ls):ls=[]∨∃ b off,a=some ⟨b,off,none⟩∧0<ls.length∧∀ k,k<ls.length→w.cell? ⟨b,off+k*2,none⟩=some (.int .i64 (ls.getD k zeroH).tx)∧w.cell? ⟨b,off+k*2+1,none⟩=some (.int .i64 (ls.getD k zeroH).oid):=by
 by_cases e:ls=[]
 ·exact .inl e
 ·obtain ⟨b,off,ha,hc⟩:=h e
  exact .inr ⟨b,off,ha,List.length_pos_iff.2 e,hc⟩
def OwnH (w:World) (lo hi:Nat) (a:Option Addr) (c:Nat) (ls:List HoldV):Prop:=
 w.ownsRow lo 110 2 (.slice a ls.length c) ls.length (cellsH ls)∧hi≤w.heap.size∧∀ k,(Value.slice a ls.length c).ownBlock=some k→k<hi
theorem OwnH.lt {w:World} {lo hi:Nat} {a:Option Addr} {c:Nat} {ls:List HoldV} (h:OwnH w lo hi a c ls):∀ k,(Value.slice a ls.length c).ownBlock=some k→lo≤k∧k<hi:=fun k hk=>⟨(h.1.lt k hk).1,h.2.2 k hk⟩
theorem OwnH.touch {w w':World} {lo hi:Nat} {a:Option Addr} {c:Nat} {ls:List HoldV} {bl:List Nat} (h:OwnH w lo hi a c ls) (ht:Touch bl w w') (hd:∀ k,(Value.slice a ls.length c).ownBlock=some k→k∉bl):OwnH w' lo hi a c ls:=
 ⟨ownsRow_block h.1 (fun k hk=>ht.block k (h.1.lt k hk).2 (hd k hk)),Nat.le_trans h.2.1 ht.size,h.2.2⟩
theorem OwnH.within {w w':World} {lo hi l r:Nat} {a:Option Addr} {c:Nat} {ls:List HoldV} (h:OwnH w lo hi a c ls) (hw:Within l r w w') (hd:hi≤l∨r≤lo):OwnH w' lo hi a c ls:=
 ⟨ownsRow_block h.1 (fun k hk=>hw.block k (by have:=h.2.2 k hk;have:=h.2.1;omega) (by have:=h.lt k hk;omega)),Nat.le_trans h.2.1 hw.size,h.2.2⟩
theorem OwnH.below {w w':World} {lo hi:Nat} {a:Option Addr} {c:Nat} {ls:List HoldV} (h:OwnH w lo hi a c ls) (hb:Below w.heap.size w w'):OwnH w' lo hi a c ls:=
 h.within (Within.of_below (lo:=w.heap.size) (hi:=w.heap.size) hb) (.inl h.2.1)
theorem OwnH.widen {w:World} {lo hi lo' hi':Nat} {a:Option Addr} {c:Nat} {ls:List HoldV} (h:OwnH w lo hi a c ls) (h1:lo'≤lo) (h2:hi≤hi') (h3:hi'≤w.heap.size):OwnH w lo' hi' a c ls:=
 ⟨ownsRow_base h.1 (fun k hk=>by have:=h.lt k hk;omega),h3,fun k hk=>by have:=h.lt k hk;omega⟩
theorem ownH_nil (w:World) (lo hi:Nat) (h:hi≤w.heap.size):OwnH w lo hi none 0 []:=⟨⟨by simp [cellsH],.inl ⟨rfl,rfl⟩⟩,h,fun k hk=>by cases hk⟩
theorem OwnH.nocap {w:World} {lo hi:Nat} {a:Option Addr} {c:Nat} {ls:List HoldV} (h:OwnH w lo hi a c ls):a=none→c=0:=by
 intro ha
 rcases h.1.2 with ⟨hv,_⟩ | ⟨g,cap,cur,hv,_⟩
 ·simp only [Value.slice.injEq] at hv;exact hv.2.2
 ·simp [ha] at hv
theorem row_hold {w:World} {base g n cap:Nat} {ls:List HoldV} (h:w.ownsRow base 110 2 (.slice (some ⟨g,0,none⟩) n cap) n (cellsH ls)) (hn:ls.length=n) (k:Nat) (hk:k<n):
  w.cell? ⟨g,k*2,none⟩=some (.int .i64 (ls.getD k zeroH).tx)∧w.cell? ⟨g,k*2+1,none⟩=some (.int .i64 (ls.getD k zeroH).oid)∧(∀ i,w.frozen? ⟨g,i,none⟩=false):=by
 have a0:=cellsH_at ls k 0 (by omega) (by omega)
 have a1:=cellsH_at ls k 1 (by omega) (by omega)
 simp only [HoldV.cells,Nat.add_zero,List.getElem?_cons_zero,List.getElem?_cons_succ] at a0 a1
 exact ⟨by rw [h.cellAt (k*2) (by omega)];exact a0,by rw [h.cellAt (k*2+1) (by omega)];exact a1,fun i=>h.frozenAt i⟩
theorem row_storeH {w:World} {base g n cap:Nat} {ls:List HoldV} (h:w.ownsRow base 110 2 (.slice (some ⟨g,0,none⟩) n cap) n (cellsH ls)) (hn:ls.length=n) (k:Nat) (hk:k<n) (t:HoldV):
  ∃ W,Hid ((w.setCell ⟨g,k*2,none⟩ (.int .i64 t.tx)).setCell ⟨g,k*2+1,none⟩ (.int .i64 t.oid)=W)∧W.ownsRow base 110 2 (.slice (some ⟨g,0,none⟩) n cap) n (cellsH (ls.set k t))∧w.grownBy W (some g):=by
 have s1:=h.stored (k*2) (.int .i64 t.tx)
 have s2:=s1.1.stored (k*2+1) (.int .i64 t.oid)
 refine ⟨_,rfl,?_,grownBy_trans s1.2 s2.2⟩
 have:=s2.1
 rw [cellsH_set ls k (by omega) t] at this
 exact this
theorem OwnH.reads {w:World} {lo hi:Nat} {a:Option Addr} {c:Nat} {ls:List HoldV} (h:OwnH w lo hi a c ls):ReadsH w a ls:=by
 intro hne
 rcases h.1.2 with ⟨_,h0⟩ | ⟨g,cap',cur,hv,hb,hg,hr⟩
 ·exact absurd (List.length_eq_zero_iff.1 h0) hne
 ·simp only [Value.slice.injEq] at hv
  obtain ⟨rfl,_,rfl⟩:=hv
  refine ⟨g,0,rfl,fun k hk=>?_⟩
  obtain ⟨a0,a1,_⟩:=row_hold h.1 rfl k hk
  rw [Nat.zero_add]
  exact ⟨a0,a1⟩
theorem Tryz.infoHold:(Tryz.prog.info? 110).map (fun i=>(i.zero,i.size,i.bytes))=some (some (.agg #[.int .i64 0,.int .i64 0]),2,16):=by kernel_rfl
theorem holds_oneCell (zs:List HoldV):∀ v∈cellsH zs,v.oneCell'=true:=by
 intro v hv
 obtain ⟨s,_,hs⟩:=List.mem_flatMap.1 hv
 simp only [HoldV.cells,List.mem_cons,List.not_mem_nil,or_false] at hs
 rcases hs with rfl | rfl<;>rfl
theorem append_holds {w:World} {ops:Array Oper} {rest:List Oper} {o:Oper} {act:Act} {Q:Exit→Act→World→Prop} (hgd:o.guard=none) (s x:Operand)
  (ho:o.op=.call { callee:=.builtin .append,args:=#[s,x],argTypes:=#[56,56] })
  (lo hi:Nat) (a:Option Addr) (c:Nat) (xs:List HoldV) (hs:act.eval s=.slice a xs.length c) (hown:OwnH w lo hi a c xs)
  (sa:Option Addr) (sc:Nat) (zs:List HoldV) (hx:act.eval x=.slice sa zs.length sc) (hr:ReadsH w sa zs) (hc:sa=none→sc=0)
  (hb:xs.length+zs.length≤1099511627776) (hlo:lo≤w.heap.size)
  (h:∀ a' c' ys w',Hid (ys=xs++zs)→OwnH w' lo w'.heap.size a' c' ys→w.grownBy w' (Value.slice a xs.length c).ownBlock→wpList Tryz.prog ops Q rest (act.put o.dst (.slice a' ys.length c')) w'):
  wpList Tryz.prog ops Q (o::rest) act w:=by
 obtain ⟨i0,hi0,hz0,hz1,hz2⟩:=info_parts Tryz.infoHold
 have fin:∀ v' w',w'.ownsRow lo 110 2 v' (xs.length+zs.length) (cellsH xs++cellsH zs)→w.grownBy w' (Value.slice a xs.length c).ownBlock→wpList Tryz.prog ops Q rest (act.put o.dst v') w':=by
  intro v' w' h1 h2
  rw [← cellsH_app,← List.length_append] at h1
  have sh:∃ a' c',v'=.slice a' (xs++zs).length c':=by
   rcases h1.2 with ⟨rfl,h0⟩ | ⟨g,cap,cur,rfl,_⟩
   ·exact ⟨none,0,by rw [h0]⟩
   ·exact ⟨_,_,rfl⟩
  obtain ⟨a',c',rfl⟩:=sh
  exact h a' c' (xs++zs) w' rfl ⟨h1,Nat.le_refl _,fun k hk=>(h1.lt k hk).2⟩ h2
 cases sa with
 | none=>
  have hz:zs=[]:=by
   by_cases e:zs=[]
   ·exact e
   ·obtain ⟨b,off,hh,_⟩:=hr e
    cases hh
  subst hz
  have:=hc rfl
  subst this
  exact wpList_append_own_none hgd s x 56 ho lo 110 i0 2 Tryz.underlying56 hi0 _ _ _ hs hown.1 hx (fin _ w (by simpa [cellsH] using hown.1) (World.grownBy.refl _ _))
 | some ad=>
  refine wpList_append_own w hgd s x 56 ho lo 110 i0 (.agg #[.int .i64 0,.int .i64 0]) 2 16 Tryz.underlying56 hi0 hz0 hz1 hz2 rfl (by decide) _ _ _ hs hown.1 ad zs.length sc (cellsH zs) hx (by rw [cellsH_len]) ?_ (holds_oneCell _) (by simp only [maxLen];omega) (by omega) hlo (fun v' w' h1 h2 _=>fin v' w' h1 h2)
  intro j u hj
  have hjl:j<zs.length*2:=by rw [← cellsH_len];exact (List.getElem?_eq_some_iff.1 hj).1
  have hne:zs≠[]:=by intro e;simp [e] at hjl
  obtain ⟨b,off,hh,hcell⟩:=hr hne
  cases hh
  have hat:=cellsH_at zs (j / 2) (j % 2) (by omega) (Nat.mod_lt _ (by omega))
  rw [show j / 2*2+j % 2=j by omega,hj] at hat
  obtain ⟨k0,k1⟩:=hcell (j / 2) (by omega)
  rw [Addr_add]
  rcases (by omega:j % 2=0∨j % 2=1) with h' | h'<;>rw [h'] at hat<;>simp only [HoldV.cells,List.getElem?_cons_zero,List.getElem?_cons_succ,Option.some.injEq] at hat
  ·rw [show off+j=off+j / 2*2 by omega,k0,hat]
  ·rw [show off+j=off+j / 2*2+1 by omega,k1,hat]
theorem readsH_one (w:World) (z:HoldV) (t:TypeId):ReadsH (w.alloc (.cells #[.int .i64 z.tx,.int .i64 z.oid] t)) (some ⟨w.heap.size,0,none⟩) [z]:=by
 intro _
 refine ⟨w.heap.size,0,rfl,fun k hk=>?_⟩
 obtain rfl:k=0:=by simpa using hk
 have b:Box (w.alloc (.cells #[.int .i64 z.tx,.int .i64 z.oid] t)) w.heap.size [.int .i64 z.tx,.int .i64 z.oid] t:=box_new _ _ _
 exact ⟨b.cell 0 _ rfl,b.cell 1 _ rfl⟩
theorem toHold_any (l:HoldV) (w:World):
  Calls Tryz.prog 57 #[.agg l.cells.toArray] w fun e w'=>e=.returned (.agg l.cells.toArray)∧Below w.heap.size w w':=by
 obtain ⟨x,y⟩:=l
 simp only [HoldV.cells]
 obtain ⟨W,hW,b0,b1,b2,hbW,hsW⟩:=boxes3 w [.int .i64 x,.int .i64 y] [.int .i64 x,.int .i64 y] [.int .i64 x,.int .i64 y] 112 110 110
 have q0:=b1.cell 0 _ rfl
 have q1:=b1.cell 1 _ rfl
 clear b0 b2 hsW
 go_enter Tryz.func57,Tryz.ntmps57
 go_wp2
 rw [hW.out]
 exact bodyPost_ret (v:=.agg #[.int .i64 x,.int .i64 y]) (by simp [results,Tryz.results57,go_sem,q0,q1]) rfl ⟨rfl,hbW⟩
theorem zero_cellsH (n:Nat):(madeCells #[.int .i64 0,.int .i64 0] (n*2)).toList=cellsH (List.replicate n zeroH):=by
 apply List.ext_getElem?
 intro i
 by_cases h:i<n*2
 ·have e:=cellsH_at (List.replicate n zeroH) (i / 2) (i % 2) (by simp;omega) (Nat.mod_lt _ (by omega))
  rw [show i / 2*2+i % 2=i by omega] at e
  rw [e]
  have hg:(List.replicate n zeroH).getD (i / 2) zeroH=zeroH:=by simp [List.getD,show i / 2<n by omega]
  rw [hg]
  simp only [madeCells,Array.toList_map,List.getElem?_map,Array.toList_range,List.getElem?_range h,Option.map_some,HoldV.cells,zeroH]
  have:i % 2<2:=Nat.mod_lt _ (by omega)
  show some (#[Value.int .i64 0,.int .i64 0][i % 2]!)=_
  rcases (by omega:i % 2=0∨i % 2=1) with h' | h'<;>rw [h']<;>rfl
 ·rw [List.getElem?_eq_none (by simp [size_madeCells];omega),List.getElem?_eq_none (by rw [cellsH_len];simp;omega)]
theorem made_hold (n:Nat):(madeCells (Value.agg #[.int .i64 0,.int .i64 0]).cells (n*2)).toList=cellsH (List.replicate n zeroH):=zero_cellsH n
def partH (ls:List HoldV) (k:Nat):List HoldV:=ls.take k++List.replicate (ls.length-k) zeroH
theorem partH_len (ls:List HoldV) (k:Nat) (h:k≤ls.length):(partH ls k).length=ls.length:=by simp [partH];omega
theorem partH_all (ls:List HoldV):partH ls ls.length=ls:=by simp [partH]
theorem partH_none (ls:List HoldV):partH ls 0=List.replicate ls.length zeroH:=by simp [partH]
theorem partH_set (ls:List HoldV) (k:Nat) (h:k<ls.length):(partH ls k).set k (ls.getD k zeroH)=partH ls (k+1):=by
 unfold partH
 rw [List.set_append,if_neg (by simp;omega),List.take_succ_eq_append_getElem h]
 have e:ls.length-k=(ls.length-(k+1))+1:=by omega
 have e2:k-(List.take k ls).length=0:=by simp;omega
 rw [e2,e,List.replicate_succ,List.set_cons_zero]
 simp only [List.getD,h,List.getElem?_eq_getElem,Option.getD_some,List.append_assoc,List.singleton_append]
theorem toHoldS_any (a:Option Addr) (cap:Nat) (ls:List HoldV) (w:World) (hr:ReadsH w a ls) (hl:ls.length≤1099511627776):
  Calls Tryz.prog 22 #[.slice a ls.length cap] w fun e w'=>∃ a' c',e=.returned (.slice a' ls.length c')∧OwnH w' w.heap.size w'.heap.size a' c' ls∧Below w.heap.size w w':=by
 obtain ⟨i0,hi,hz0,hz1,hz2⟩:=info_parts Tryz.infoHold
 rcases hr.cases with rfl | ⟨b,off,rfl,hpos,hcell⟩
 ·go_enter Tryz.func22,Tryz.ntmps22
  go_wp2_with (at_make;refine wpList_make_full _ rfl _ _ 56 rfl w.heap.size 110 i0 (.agg #[.int .i64 0,.int .i64 0]) 2 Tryz.underlying56 hi hz0 hz1 _ _ _ _ 0 rfl rfl (by simp) (by simp) (by omega) (by simp [maxLen]) (Nat.le_refl _) ?_)
  intro w0 hown0 hgrow0
  go_wp2
  refine wp_loop_rounds 1 ?_
  rw [rounds_succ]
  go_wp2
  go_ret
  have ho:w0.ownsRow w.heap.size 110 2 (.slice (some ⟨w.heap.size,0,none⟩) 0 0) 0 (cellsH []):=by
   have e:=made_hold 0
   simp only [List.replicate_zero] at e
   rw [← e]
   exact hown0
  exact ⟨_,_,rfl,⟨ho,Nat.le_refl _,fun k hk=>(ho.lt k hk).2⟩,(Below.refl _ _).grown hgrow0 (Nat.le_refl _) (fun k h=>by cases h)⟩
 ·have hbB:b<w.heap.size:=block_lt (hcell 0 hpos).1
  go_enter Tryz.func22,Tryz.ntmps22
  go_wp2_with (at_make;refine wpList_make_full _ rfl _ _ 56 rfl w.heap.size 110 i0 (.agg #[.int .i64 0,.int .i64 0]) 2 Tryz.underlying56 hi hz0 hz1 _ _ _ _ ls.length rfl rfl rfl rfl (by rw [hz2];omega) (by simp [maxLen];omega) (Nat.le_refl _) ?_)
  intro w0 hown0 hgrow0
  have hown1:w0.ownsRow w.heap.size 110 2 (.slice (some ⟨w.heap.size,0,none⟩) ls.length ls.length) ls.length (cellsH (partH ls 0)):=by
   rw [partH_none,← made_hold]
   exact hown0
  have hb0:Below w.heap.size w w0:=(Below.refl _ _).grown hgrow0 (Nat.le_refl _) (fun k h=>by cases h)
  clear hown0 hgrow0
  go_wp2
  go_loopw [4] (fun i wr=>∃ k:Nat,k≤ls.length∧i=.int .i64 k∧wr.ownsRow w.heap.size 110 2 (.slice (some ⟨w.heap.size,0,none⟩) ls.length ls.length) ls.length (cellsH (partH ls k))∧Below w.heap.size w wr)
   (fun i _=>ls.length-(intOf i).toNat)
  case atStart=>exact ⟨0,Nat.zero_le _,rfl,hown1,hb0⟩
  case round=>
   obtain ⟨k,hk,rfl,hown,hnx⟩:=hrel
   by_cases hlt:k<ls.length
   ·obtain ⟨c0,c1⟩:=hcell k hlt
    have d0:wr.cell? ⟨b,off+k*2,none⟩=_:=(hnx.cell (by exact hbB)).trans c0
    have d1:wr.cell? ⟨b,off+k*2+1,none⟩=_:=(hnx.cell (by exact hbB)).trans c1
    have hp:=partH_len ls k hk
    have HSET:Hid ((partH ls k).set k (ls.getD k zeroH)=partH ls (k+1)):=partH_set ls k hlt
    clear c0 c1 hcell hown1 hb0
    generalize ls.getD k zeroH=z at*
    have C:=toHold_any z wr
    simp only [HoldV.cells] at C
    go_wp2_with fail
    refine C.mono ?_
    clear C d0 d1
    rintro e w1 ⟨rfl,hb1⟩
    have hownA:=ownsRow_block hown (fun j hj=>hb1.block j (hown.lt j hj).2)
    obtain ⟨x0,x1,hfz⟩:=row_hold hownA hp k hlt
    have f0:=hfz (k*2)
    have f1:=hfz (k*2+1)
    obtain ⟨W2,hW2,ho2,hg2⟩:=row_storeH hownA hp k hlt z
    rw [HSET.out] at ho2
    have hB2:Below w.heap.size w W2:=(hnx.trans (hb1.mono hnx.size)).grown hg2 (by have:=hnx.size;have:=hb1.size;omega) (fun j hj=>by cases hj;omega)
    have HH:Hid (_∧_):=⟨ho2,hB2⟩
    clear ho2 hB2 hg2 hfz hownA hown hb1 hnx HSET
    generalize (partH ls k).getD k zeroH=old at*
    go_wp2_with fail
    rw [hW2.out]
    go_roundw
    case rel=>exact ⟨k+1,by omega,by go_num,HH.out.1,HH.out.2⟩
    case measure=>simp [intOf];omega
   ·have HE:Hid (wr.ownsRow w.heap.size 110 2 (.slice (some ⟨w.heap.size,0,none⟩) ls.length ls.length) ls.length (cellsH ls)):=by
     have e:k=ls.length:=by omega
     rw [e,partH_all] at hown
     exact hown
    go_wp2
    go_ret
    exact ⟨_,_,rfl,⟨HE.out,Nat.le_refl _,fun k hk=>(HE.out.lt k hk).2⟩,hnx⟩
theorem eqHold_same (l:HoldV) (w:World):
  Calls Tryz.prog 72 #[.agg l.cells.toArray,.agg l.cells.toArray] w fun e w'=>e=.returned (.bool true)∧Below w.heap.size w w':=by
 obtain ⟨x,y⟩:=l
 simp only [HoldV.cells]
 obtain ⟨W,hW,b0,b1,hbW,hsW⟩:=boxes2 w [.int .i64 x,.int .i64 y] [.int .i64 x,.int .i64 y] 110 110
 clear b0 b1 hsW
 go_enter Tryz.func72,Tryz.ntmps72
 go_wp2
 rw [hW.out]
 go_ret
 exact ⟨rfl,hbW⟩
theorem eqHoldS_same (a b:Option Addr) (ca cb:Nat) (ls:List HoldV) (w:World) (ha:ReadsH w a ls) (hb:ReadsH w b ls) (hl:ls.length≤1099511627776):
  Calls Tryz.prog 32 #[.slice a ls.length ca,.slice b ls.length cb] w fun e w'=>e=.returned (.bool true)∧Below w.heap.size w w':=by
 rcases ha.cases with rfl | ⟨b1,o1,rfl,hpos,hc1⟩
 ·go_enter Tryz.func32,Tryz.ntmps32
  go_wp2
  refine wp_loop_rounds 1 ?_
  rw [rounds_succ]
  go_wp2
  go_ret
  exact ⟨rfl,Below.refl _ _⟩
 ·rcases hb.cases with rfl | ⟨b2,o2,rfl,_,hc2⟩
  ·simp at hpos
  ·go_enter Tryz.func32,Tryz.ntmps32
   go_wp2
   go_loopw [5] (fun i wr=>∃ k:Nat,k≤ls.length∧i=.int .i64 k∧Below w.heap.size w wr) (fun i _=>ls.length-(intOf i).toNat)
   case atStart=>exact ⟨0,Nat.zero_le _,rfl,Below.refl _ _⟩
   case round=>
    obtain ⟨k,hk,rfl,hbl⟩:=hrel
    by_cases hlt:k<ls.length
    ·have h1:=hc1 k hlt
     have h2:=hc2 k hlt
     clear hc1 hc2
     generalize ls.getD k zeroH=z at*
     have HS:Hid (∀ w1,Below w.heap.size w w1→(w1.cell? ⟨b1,o1+k*2,none⟩=some (.int .i64 z.tx)∧w1.cell? ⟨b1,o1+k*2+1,none⟩=some (.int .i64 z.oid))∧(w1.cell? ⟨b2,o2+k*2,none⟩=some (.int .i64 z.tx)∧w1.cell? ⟨b2,o2+k*2+1,none⟩=some (.int .i64 z.oid))):=fun w1 hh=>
      ⟨⟨(hh.cell (block_lt h1.1)).trans h1.1,(hh.cell (block_lt h1.2)).trans h1.2⟩,(hh.cell (block_lt h2.1)).trans h2.1,(hh.cell (block_lt h2.2)).trans h2.2⟩
     have hh:=HS.out wr hbl
     clear h1 h2
     go_wp2_with fail
     go_region_held3 (fun w1=>(w1.cell? ⟨b1,o1+k*2,none⟩=some (.int .i64 z.tx)∧w1.cell? ⟨b1,o1+k*2+1,none⟩=some (.int .i64 z.oid))∧(w1.cell? ⟨b2,o2+k*2,none⟩=some (.int .i64 z.tx)∧w1.cell? ⟨b2,o2+k*2+1,none⟩=some (.int .i64 z.oid)))
      (first | exact HS.out _ hw2 | go_keep | fail)
      ((first | (go_at_call 72;refine (eqHold_same z _).mono ?_;rintro e w2 ⟨rfl,hb2⟩;have hw2:Below w.heap.size w w2:=(hbl.drew).trans (hb2.mono hbl.size)) | fail))
     all_goals
      go_wp2_with fail
      go_roundw
      case rel=>exact ⟨k+1,by omega,by go_num,hw2⟩
      case measure=>simp [intOf];omega
    ·go_wp2
     go_ret
     exact ⟨rfl,hbl⟩
def markH1 (k0:Int) (i:Nat):HoldV:=⟨k0+2*i,k0+2*i+1⟩
def marksH (k0:Int) (n:Nat):List HoldV:=(List.range n).map fun i:Nat=>markH1 k0 i
theorem marksH_len (k0:Int) (n:Nat):(marksH k0 n).length=n:=by simp [marksH]
theorem marksH_at (k0:Int) (n i:Nat) (h:i<n):(marksH k0 n).getD i zeroH=markH1 k0 i:=by simp [marksH,List.getD,h]
theorem marksH_succ (k0:Int) (n:Nat):marksH k0 (n+1)=marksH k0 n++[markH1 k0 n]:=by simp [marksH,List.range_succ]
def markedH (k0:Int) (xs:List HoldV) (k:Nat):List HoldV:=marksH k0 k++xs.drop k
theorem markedH_len (k0:Int) (xs:List HoldV) (k:Nat) (h:k≤xs.length):(markedH k0 xs k).length=xs.length:=by simp [markedH,marksH_len];omega
theorem markedH_set (k0:Int) (xs:List HoldV) (k:Nat) (h:k<xs.length):(markedH k0 xs k).set k (markH1 k0 k)=markedH k0 xs (k+1):=by
 unfold markedH
 rw [List.set_append,if_neg (by rw [marksH_len];omega),marksH_len,Nat.sub_self,marksH_succ,List.drop_eq_getElem_cons h,List.set_cons_zero]
 simp
theorem markedH_all (k0:Int) (xs:List HoldV):markedH k0 xs xs.length=marksH k0 xs.length:=by simp [markedH]
theorem markHoldS_any (base:Nat) (a:Option Addr) (cap:Nat) (k0:Int) (xs:List HoldV) (w:World)
  (hown:w.ownsRow base 110 2 (.slice a xs.length cap) xs.length (cellsH xs)) (h0:0≤k0) (hl:k0+2*xs.length≤4611686018427387904):
  Calls Tryz.prog 37 #[.slice a xs.length cap,.int .i64 k0] w fun e w'=>e=.returned (.int .i64 (k0+2*xs.length))∧
   w'.ownsRow base 110 2 (.slice a xs.length cap) xs.length (cellsH (marksH k0 xs.length))∧w.grownBy w' (Value.slice a xs.length cap).ownBlock:=by
 have hlen:=hown.1
 rcases hown.2 with ⟨hv,h00⟩ | ⟨g,cap',cur,hv,hg,hgg,hr⟩
 ·simp only [Value.slice.injEq] at hv
  obtain ⟨rfl,h00',rfl⟩:=hv
  obtain rfl:=List.length_eq_zero_iff.1 h00
  go_enter Tryz.func37,Tryz.ntmps37
  go_wp2
  refine wp_loop_rounds 1 ?_
  rw [rounds_succ]
  go_wp2
  go_ret
  exact ⟨by simp,hown,World.grownBy.refl _ _⟩
 ·simp only [Value.slice.injEq] at hv
  obtain ⟨rfl,_,rfl⟩:=hv
  clear hgg hr hlen
  have hM:w.ownsRow base 110 2 (.slice (some ⟨g,0,none⟩) xs.length cap) xs.length (cellsH (markedH k0 xs 0)):=by simpa [markedH,marksH] using hown
  clear hown
  go_enter Tryz.func37,Tryz.ntmps37
  go_wp2
  go_loopw [1,5] (fun kk i wr=>∃ k:Nat,k≤xs.length∧i=.int .i64 k∧kk=.int .i64 (k0+2*k)∧wr.ownsRow base 110 2 (.slice (some ⟨g,0,none⟩) xs.length cap) xs.length (cellsH (markedH k0 xs k))∧w.grownBy wr (some g))
   (fun _ i _=>xs.length-(intOf i).toNat)
  case atStart=>exact ⟨0,Nat.zero_le _,rfl,by simp,hM,World.grownBy.refl _ _⟩
  case round=>
   obtain ⟨k,hk,rfl,rfl,hown,hgr⟩:=hrel
   clear hM
   by_cases hlt:k<xs.length
   ·have hp:=markedH_len k0 xs k hk
    obtain ⟨x0,x1,hfz⟩:=row_hold hown hp k hlt
    have f0:=hfz (k*2)
    have f1:=hfz (k*2+1)
    obtain ⟨W2,hW2,ho2,hg2⟩:=row_storeH hown hp k hlt (markH1 k0 k)
    rw [markedH_set k0 xs k hlt] at ho2
    have HH:Hid (_∧_):=⟨ho2,grownBy_trans hgr hg2⟩
    clear ho2 hg2 hfz hown hgr
    generalize (markedH k0 xs k).getD k zeroH=old at*
    simp only [markH1] at hW2
    go_wp2
    rw [hW2.out]
    go_roundw
    case rel=>exact ⟨k+1,by omega,by go_num,by go_num,HH.out.1,HH.out.2⟩
    case measure=>simp [intOf];omega
   ·have HE:Hid (wr.ownsRow base 110 2 (.slice (some ⟨g,0,none⟩) xs.length cap) xs.length (cellsH (marksH k0 xs.length))∧k=xs.length):=by
     have e:k=xs.length:=by omega
     rw [e,markedH_all] at hown
     exact ⟨hown,e⟩
    go_wp2
    go_ret
    exact ⟨ret_int (by have:=HE.out.2;omega),HE.out.1,hgr⟩
theorem markHoldS_own (lo hi:Nat) (a:Option Addr) (cap:Nat) (k0:Int) (xs:List HoldV) (w:World) (ho:OwnH w lo hi a cap xs) (h0:0≤k0) (hl:k0+2*xs.length≤4611686018427387904):
  Calls Tryz.prog 37 #[.slice a xs.length cap,.int .i64 k0] w fun e w'=>e=.returned (.int .i64 (k0+2*xs.length))∧
   OwnH w' lo hi a cap (marksH k0 xs.length)∧Touch (Value.slice a xs.length cap).ownBlock.toList w w':=by
 refine (markHoldS_any lo a cap k0 xs w ho.1 h0 hl).mono ?_
 rintro e w' ⟨rfl,h1,h2⟩
 refine ⟨rfl,⟨by rw [marksH_len];exact h1,Nat.le_trans ho.2.1 h2.size,by rw [marksH_len];exact ho.2.2⟩,Touch.of_grown h2 (fun j hj=>Option.mem_toList.2 hj)⟩
theorem heldHoldS_any (a:Option Addr) (cap:Nat) (k0:Int) (n:Nat) (w:World) (hr:ReadsH w a (marksH k0 n)) (h0:0≤k0) (hl:k0+2*n≤4611686018427387904):
  Calls Tryz.prog 42 #[.slice a n cap,.int .i64 k0] w fun e w'=>e=.returned (.int .i64 (k0+2*n))∧w'=w:=by
 rcases hr.cases with h | ⟨b,off,rfl,hpos,hcell⟩
 ·have h':=congrArg List.length h
  rw [marksH_len] at h'
  simp at h'
  subst h'
  go_enter Tryz.func42,Tryz.ntmps42
  go_wp2
  refine wp_loop_rounds 1 ?_
  rw [rounds_succ]
  go_wp2
  go_ret
  exact ⟨by simp,rfl⟩
 ·rw [marksH_len] at hpos hcell
  go_enter Tryz.func42,Tryz.ntmps42
  go_wp2
  go_loop [1,5] (fun kk i=>∃ k:Nat,k≤n∧i=.int .i64 k∧kk=.int .i64 (k0+2*k)) (fun _ i=>n-(intOf i).toNat)
  case atStart=>exact ⟨0,Nat.zero_le _,rfl,by simp⟩
  case round=>
   obtain ⟨k,hk,rfl,rfl⟩:=hrel
   by_cases hlt:k<n
   ·obtain ⟨c0,c1⟩:=hcell k hlt
    rw [marksH_at k0 n k hlt] at c0 c1
    simp only [markH1] at c0 c1
    clear hcell
    go_wp2
    go_round
    case rel=>exact ⟨k+1,by omega,by go_num,by go_num⟩
    case measure=>simp [intOf];omega
   ·have HE:Hid (k=n):=by show k=n;omega
    go_wp2
    go_ret
    exact ⟨ret_int (by have:=HE.out;omega),rfl⟩
theorem run_append_ints {w:World} (ty:TypeId) (lo hi:Nat) (a:Option Addr) (c:Nat) (xs:List Int) (hown:OwnI w lo hi a c xs)
  (sa:Option Addr) (sc:Nat) (zs:List Int) (hr:ReadsI w sa zs) (hc:sa=none→sc=0) (hb:xs.length+zs.length≤1099511627776) (hlo:lo≤w.heap.size):
  ∃ a' c' ys w',(Builtin.append_ #[22,22] ty #[.slice a xs.length c,.slice sa zs.length sc]).run Tryz.prog w=.ok (.slice a' ys.length c') w'∧Hid (ys=xs++zs)∧OwnI w' lo w'.heap.size a' c' ys∧w.grownBy w' (Value.slice a xs.length c).ownBlock∧
   (∀ k,(Value.slice a' ys.length c').ownBlock=some k→(Value.slice a xs.length c).ownBlock=some k∨k=w.heap.size):=by
 obtain ⟨i0,hi0,hz0,hz1,hz2⟩:=info_parts Tryz.infoInt
 cases sa with
 | none=>
  have hz:zs=[]:=by
   by_cases e:zs=[]
   ·exact e
   ·obtain ⟨b,off,hh,_⟩:=hr e
    cases hh
  subst hz
  have:=hc rfl
  subst this
  refine ⟨a,c,xs,w,run_append_owned_none (P:=Tryz.prog) (w:=w) lo 22 ty 3 i0 1 Tryz.underlying22 hi0 _ _ _ hown.1,(by simp [Hid]),⟨hown.1,Nat.le_refl _,fun k hk=>(hown.1.lt k hk).2⟩,World.grownBy.refl _ _,fun k hk=>.inl hk⟩
 | some ad=>
  obtain ⟨v',w',h1,h2,h3,_,h5⟩:=run_append_own_at (P:=Tryz.prog) w lo 22 ty 3 i0 (.int .i64 0) 1 8 Tryz.underlying22 hi0 hz0 hz1 hz2 rfl (by decide) _ _ _ hown.1 ad zs.length sc (zs.map (Value.int .i64)) (by simp) (by
   intro j u hj
   have hjl:j<zs.length:=by
    by_cases e:j<zs.length
    ·exact e
    ·simp [List.getElem?_eq_none (Nat.le_of_not_lt e)] at hj
   have hne:zs≠[]:=by intro e;simp [e] at hjl
   obtain ⟨b,off,hh,hcell⟩:=hr hne
   cases hh
   rw [Addr_add,hcell j hjl]
   simpa [hjl] using hj) (ints_oneCell _ _) (by simp only [maxLen];omega) (by omega) hlo
  rw [← List.map_append,← List.length_append] at h2
  have sh:∃ a' c',v'=.slice a' (xs++zs).length c':=by
   rcases h2.2 with ⟨rfl,h0⟩ | ⟨g,cap,cur,rfl,_⟩
   ·exact ⟨none,0,by rw [h0]⟩
   ·exact ⟨_,_,rfl⟩
  obtain ⟨a',c',rfl⟩:=sh
  refine ⟨a',c',xs++zs,w',h1,rfl,⟨h2,Nat.le_refl _,fun k hk=>(h2.lt k hk).2⟩,h3,fun k hk=>?_⟩
  rcases h5 with h5 | h5
  ·exact .inl (by rw [← h5];exact hk)
  ·rw [h5] at hk
   exact .inr (Option.some.inj hk).symm
theorem step_append_ints {w:World} {ops:Array Oper} {o:Oper} {act:Act} {K:Act→World→Prop} {Q:Exit→Act→World→Prop} {E:Prop} (hgd:o.guard=none) (s x:Operand)
  (ho:o.op=.call { callee:=.builtin .append,args:=#[s,x],argTypes:=#[22,22] })
  (lo hi:Nat) (a:Option Addr) (c:Nat) (xs:List Int) (hs:act.eval s=.slice a xs.length c) (hown:OwnI w lo hi a c xs)
  (sa:Option Addr) (sc:Nat) (zs:List Int) (hx:act.eval x=.slice sa zs.length sc) (hr:ReadsI w sa zs) (hc:sa=none→sc=0)
  (hb:xs.length+zs.length≤1099511627776) (hlo:lo≤w.heap.size)
  (h:∀ a' c' ys w',Hid (ys=xs++zs)→OwnI w' lo w'.heap.size a' c' ys→w.grownBy w' (Value.slice a xs.length c).ownBlock→
   (∀ k,(Value.slice a' ys.length c').ownBlock=some k→(Value.slice a xs.length c).ownBlock=some k∨k=w.heap.size)→K (act.put o.dst (.slice a' ys.length c')) w'):
  if Region.wanted o (yielded ops act.tmps)=true then Oper.wp Tryz.prog o act w K Q else E:=by
 have hw:Region.wanted o (yielded ops act.tmps)=true:=by simp [Region.wanted,hgd]
 rw [if_pos hw]
 obtain ⟨a',c',ys,w',hrun,h1,h2,h3,h4⟩:=run_append_ints (w:=w) o.type lo hi a c xs hown sa sc zs hr hc hb hlo
 unfold Oper.wp execOp
 simp only [ho,resolve,invoke,builtin,Sem.run_bind,Sem.run_pure,Result.andThen_ok,List.map_toArray,List.map_cons,List.map_nil,hs,hx,hrun]
 exact h a' c' ys w' h1 h2 h3 h4
theorem Box.grown {w w':World} {C B:Nat} {vs:List Value} {t:TypeId} (h:Box w C vs t) (hg:w.grownBy w' (some B)) (hne:C≠B):Box w' C vs t:=h.block (hg.block C h.lt (fun e=>hne (Option.some.inj e)))
theorem blA {W w':World} (h:Below W.heap.size W w') (o:Obj):Below W.heap.size W (w'.alloc o):=h.alloc h.size o
theorem blG {W w' w2:World} {g:Nat} (h:Below W.heap.size W w') (hg:w'.grownBy w2 (some g)) (hn:W.heap.size≤g):Below W.heap.size W w2:=h.grown hg h.size (fun k e=>by cases e;exact hn)
theorem ownI_box0 {w:World} {g lo:Nat} (h:Box w g [] 3) (hlo:lo≤g):OwnI w lo w.heap.size (some ⟨g,0,none⟩) 0 []:=
 ⟨⟨by simp,.inr ⟨g,0,#[],rfl,hlo,h,Nat.le_refl _,by simp [maxLen],rfl,rfl⟩⟩,Nat.le_refl _,fun k hk=>by cases hk;exact h.lt⟩
theorem l2Copy_any (o:ObjV) (aI:Option Addr) (cI:Nat) (aR:Option Addr) (cR:Nat) (w:World) (hr:ReadsO w aI cI aR cR o) (hlI:o.ints.length≤1099511627776) (hlR:o.refs.length≤1099511627776):
  Calls Tryz.prog 143 #[.agg #[.int .i64 o.kind,.slice aI o.ints.length cI,.slice aR o.refs.length cR]] w fun e w'=>∃ aI' cI' aR' cR',e=.returned (.agg #[.int .i64 o.kind,.slice aI' o.ints.length cI',.slice aR' o.refs.length cR'])∧
   OwnO w' w.heap.size w'.heap.size aI' cI' aR' cR' o∧Below w.heap.size w w':=by
 obtain ⟨k,ints,refs⟩:=o
 obtain ⟨hI,hR,hni,hnr⟩:=hr
 simp only at*
 obtain ⟨W,hW,b0,b1,hbW,hsW⟩:=boxes2 w [.int .i64 k,.slice aI ints.length cI,.slice aR refs.length cR] [.int .i64 0,.slice none 0 0,.slice none 0 0] 42 42
 have hI':=hI.below hbW
 have hR':=hR.below hbW
 have hwW:w.heap.size+1<W.heap.size:=by omega
 clear hsW hI hR
 go_enter Tryz.func143,Tryz.ntmps143
 go_wp2_with fail
 rw [hW.out]
 clear hW
 have hkeep:∀ w'',Below W.heap.size W w''→Box w'' w.heap.size [.int .i64 k,.slice aI ints.length cI,.slice aR refs.length cR] 42∧Box w'' (w.heap.size+1) [.int .i64 0,.slice none 0 0,.slice none 0 0] 42:=
  fun w'' hh=>⟨b0.below hh b0.lt,b1.below hh b1.lt⟩
 have hcells:∀ w'',Below W.heap.size W w''→(w''.cell? ⟨w.heap.size,0,none⟩=some (.int .i64 k)∧w''.cell? ⟨w.heap.size,1,none⟩=some (.slice aI ints.length cI)∧w''.cell? ⟨w.heap.size,2,none⟩=some (.slice aR refs.length cR))∧(w''.cell? ⟨w.heap.size+1,0,none⟩=some (.int .i64 0)∧w''.cell? ⟨w.heap.size+1,1,none⟩=some (.slice none 0 0)∧w''.cell? ⟨w.heap.size+1,2,none⟩=some (.slice none 0 0))∧(w''.frozen? ⟨w.heap.size+1,0,none⟩=false∧w''.frozen? ⟨w.heap.size+1,1,none⟩=false∧w''.frozen? ⟨w.heap.size+1,2,none⟩=false):=by
  intro w'' hh
  obtain ⟨ba,bb⟩:=hkeep w'' hh
  exact ⟨⟨ba.cell 0 _ rfl,ba.cell 1 _ rfl,ba.cell 2 _ rfl⟩,⟨bb.cell 0 _ rfl,bb.cell 1 _ rfl,bb.cell 2 _ rfl⟩,bb.frozen 0,bb.frozen 1,bb.frozen 2⟩
 have hh:=hcells W (Below.refl _ _)
 have q1:Box (W.drew.alloc (.cells #[] 3)) W.heap.size [] 3:=box_new W.drew [] _
 have q2a:Box ((W.drew.alloc (.cells #[] 3)).alloc (.cells #[] 3)) W.heap.size [] 3:=(box_new W.drew [] _).alloc _
 have q2b:Box ((W.drew.alloc (.cells #[] 3)).alloc (.cells #[] 3)) (W.heap.size+1) [] 3:=by
  have:=box_new (W.drew.alloc (.cells #[] 3)) [] 3
  simpa using this
 have Q1:Hid (_∧_∧_):=⟨q1,q2a,q2b⟩
 clear q1 q2a q2b
 have HK:Hid _:=hkeep
 have HC:Hid _:=hcells
 have hne:¬ (w.heap.size=w.heap.size+1):=by omega
 have HNI:Hid _:=hni
 have HNR:Hid _:=hnr
 clear hkeep hcells b0 b1 hni hnr
 go_region_held3 (fun w''=>w''.cell? ⟨w.heap.size,0,none⟩=some (.int .i64 k)∧w''.cell? ⟨w.heap.size,1,none⟩=some (.slice aI ints.length cI)∧w''.cell? ⟨w.heap.size,2,none⟩=some (.slice aR refs.length cR))
  (first | exact (HC.out _ (by first | exact hb2 | exact hb1 | exact blA hb2 _ | exact blA hb1 _ | exact (Below.refl _ _).drew | exact blA (Below.refl _ _).drew _ | exact blA (blA (Below.refl _ _).drew _) _ | fail)).1 | exact ⟨((((HK.out _ (by first | exact hb2 | exact hb1 | fail)).1.other hne).other hne).other hne).cell 0 _ rfl,((((HK.out _ (by first | exact hb2 | exact hb1 | fail)).1.other hne).other hne).other hne).cell 1 _ rfl,((((HK.out _ (by first | exact hb2 | exact hb1 | fail)).1.other hne).other hne).other hne).cell 2 _ rfl⟩ | go_keep | fail)
  ((first
   | (refine step_append_ints rfl (.tmp 5) (.tmp 7) (by rfl) (w.heap.size+1+1) _ _ _ [] (by rfl) (ownI_box0 (by first | exact Q1.out.1 | exact Q1.out.2.1 | exact Q1.out.2.2 | assumption | exact (Q1.out.2.2).grown hg1 (by dsimp only;omega) | exact (Q1.out.2.1).grown hg1 (by dsimp only;omega) | exact box_new _ [] _ | fail) (by first | omega | (have:=hb1.size;omega))) aI cI ints (by rfl) (hI'.below (by first | exact hb2 | exact hb1 | exact blA hb2 _ | exact blA hb1 _ | exact (Below.refl _ _).drew | exact blA (Below.refl _ _).drew _ | exact blA (blA (Below.refl _ _).drew _) _ | fail)) HNI.out (by simp only [List.length_nil];omega) (Nat.le_trans (by omega) (Below.size (B:=W.heap.size) (w:=W) (by first | exact hb2 | exact hb1 | exact blA hb2 _ | exact blA hb1 _ | exact (Below.refl _ _).drew | exact blA (Below.refl _ _).drew _ | exact blA (blA (Below.refl _ _).drew _) _ | fail))) ?_;intro a1 c1 y1 u1 hy1 hO1 hg1 hat1;have HA1:Hid _:=hat1;clear hat1;have hyy:ints=y1:=(by simpa using hy1.out.symm);subst hyy;have hb1:=blG (W:=W) (by first | exact hb2 | exact hb1 | exact blA hb2 _ | exact blA hb1 _ | exact (Below.refl _ _).drew | exact blA (Below.refl _ _).drew _ | exact blA (blA (Below.refl _ _).drew _) _ | fail) hg1 (by dsimp only;omega))
   | (refine step_append_ints rfl (.tmp 9) (.tmp 11) (by rfl) (w.heap.size+1+1) _ _ _ [] (by rfl) (ownI_box0 (by first | exact Q1.out.1 | exact Q1.out.2.1 | exact Q1.out.2.2 | assumption | exact (Q1.out.2.2).grown hg1 (by dsimp only;omega) | exact (Q1.out.2.1).grown hg1 (by dsimp only;omega) | exact box_new _ [] _ | fail) (by first | omega | (have:=hb1.size;omega))) aR cR refs (by rfl) (hR'.below (by first | exact hb2 | exact hb1 | exact blA hb2 _ | exact blA hb1 _ | exact (Below.refl _ _).drew | exact blA (Below.refl _ _).drew _ | exact blA (blA (Below.refl _ _).drew _) _ | fail)) HNR.out (by simp only [List.length_nil];omega) (Nat.le_trans (by omega) (Below.size (B:=W.heap.size) (w:=W) (by first | exact hb2 | exact hb1 | exact blA hb2 _ | exact blA hb1 _ | exact (Below.refl _ _).drew | exact blA (Below.refl _ _).drew _ | exact blA (blA (Below.refl _ _).drew _) _ | fail))) ?_;intro a2 c2 y2 u2 hy2 hO2 hg2 hat2;have HA2:Hid _:=hat2;clear hat2;have hyy:refs=y2:=(by simpa using hy2.out.symm);subst hyy;have hb2:=blG (W:=W) (by first | exact hb2 | exact hb1 | exact blA hb2 _ | exact blA hb1 _ | exact (Below.refl _ _).drew | exact blA (Below.refl _ _).drew _ | exact blA (blA (Below.refl _ _).drew _) _ | fail) hg2 (by dsimp only;first | omega | (have:=hb1.size;omega));obtain ⟨⟨m0,m1,m2⟩,⟨n0,n1,n2⟩,e0,e1,e2⟩:=HC.out _ hb2) | fail))
 all_goals
  have hO1':OwnI u2 (w.heap.size+1+1) u2.heap.size a1 c1 ints:=by
   first
   | exact (hO1.kept hg2 (fun k hk e=>by have h1:=HA1.out k hk;have h2:=(hO1.lt k hk).2;simp [Value.ownBlock] at h1 e;omega)).widen (Nat.le_refl _) hg2.size (Nat.le_refl _)
   | exact ((hO1.below ((Below.refl _ _).alloc (Nat.le_refl _) _)).kept hg2 (fun k hk e=>by have h2:=(hO1.lt k hk).2;simp [Value.ownBlock] at e;omega)).widen (Nat.le_refl _) (Nat.le_trans (by simp) hg2.size) (Nat.le_refl _)
   | fail
  have hap:∀ k,(Value.slice a1 ints.length c1).ownBlock=some k→(Value.slice a2 refs.length c2).ownBlock≠some k:=by
   intro k hk hk'
   have h1:=HA1.out k hk
   have h2:=HA2.out k hk'
   have h3:=(hO1.lt k hk).2
   simp [Value.ownBlock] at h1 h2
   omega
  obtain ⟨WF,hWF,bF,hwF,hsF⟩:=box3_fill (HK.out _ hb2).2 (.int .i64 k) (.slice a1 ints.length c1) (.slice a2 refs.length c2)
  clear HA1 HA2 hg1 hg2 Q1 hb1 hO1
  rw [hWF.out]
  go_wp2
  obtain ⟨q0,q1,q2,_,_,_⟩:=bF.three
  have hs2:=hb2.size
  have hOF:OwnO WF (w.heap.size+1+1) u2.heap.size a1 c1 a2 c2 ⟨k,ints,refs⟩:=(⟨hO1',hO2,hap⟩:OwnO u2 (w.heap.size+1+1) u2.heap.size a1 c1 a2 c2 ⟨k,ints,refs⟩).within hwF (.inr (by omega))
  exact bodyPost_ret (v:=.agg #[.int .i64 k,.slice a1 ints.length c1,.slice a2 refs.length c2]) (by simp [results,Tryz.results143,go_sem,q0,q1,q2]) rfl ⟨a1,c1,a2,c2,rfl,hOF.widen (by omega) (by omega) (Nat.le_refl _),(hbW.trans (hb2.mono (by omega))).trans (hwF.below (by omega) (by omega))⟩
theorem set_cons1 (v x:Value) (L:List Value) (i:Nat):(v::L).set (1+i) x=v::L.set i x:=by rw [Nat.add_comm,List.set_cons_succ]
theorem pslot_fill {w:World} {B:Nat} {v:Value} {ss:List SlotA} {ty:TypeId} (b:Box w B (v::cellsS ss) ty) (k:Nat) (hk:k<ss.length) (t:SlotA):
  ∃ W,Hid ((((w.setCell ⟨B,1+k*4,none⟩ (.bool t.v.has)).setCell ⟨B,1+k*4+1,none⟩ (.int .i64 t.v.o.kind)).setCell ⟨B,1+k*4+2,none⟩ (.slice t.aI t.v.o.ints.length t.cI)).setCell ⟨B,1+k*4+3,none⟩ (.slice t.aR t.v.o.refs.length t.cR)=W)∧Box W B (v::cellsS (ss.set k t)) ty∧Within B (B+1) w W∧W.heap.size=w.heap.size:=by
 refine ⟨_,rfl,?_,?_,?_⟩
 ·have:=(((b.set (1+k*4) (.bool t.v.has)).set (1+k*4+1) (.int .i64 t.v.o.kind)).set (1+k*4+2) (.slice t.aI t.v.o.ints.length t.cI)).set (1+k*4+3) (.slice t.aR t.v.o.refs.length t.cR)
  rw [Nat.add_assoc,Nat.add_assoc 1 (k*4) 2,Nat.add_assoc 1 (k*4) 3,set_cons1,set_cons1,set_cons1,set_cons1,cellsS_set ss k hk t] at this
  rw [Nat.add_assoc,Nat.add_assoc 1 (k*4) 2,Nat.add_assoc 1 (k*4) 3]
  exact this
 ·exact (((within_set w B _ _ (by omega)).trans (within_set _ B _ _ (by omega))).trans (within_set _ B _ _ (by omega))).trans (within_set _ B _ _ (by omega))
 ·simp
theorem l3CopySlot_own (s:SlotA) (w:World) (hr:s.reads w) (hlI:s.v.o.ints.length≤1099511627776) (hlR:s.v.o.refs.length≤1099511627776):
  Calls Tryz.prog 120 #[.agg s.cells.toArray] w fun e w'=>∃ t:SlotA,e=.returned (.agg t.cells.toArray)∧Hid (t.v=s.v)∧t.own w' w.heap.size w'.heap.size∧Below w.heap.size w w':=by
 obtain ⟨⟨h,⟨k,ints,refs⟩⟩,aI,cI,aR,cR⟩:=s
 simp only [SlotA.cells,SlotA.reads,SlotA.own] at*
 obtain ⟨W,hW,b0,b1,hbW,hsW⟩:=boxes2 w [.bool h,.int .i64 k,.slice aI ints.length cI,.slice aR refs.length cR] [.bool false,.int .i64 0,.slice none 0 0,.slice none 0 0] 44 44
 have hr':=hr.below hbW
 have hwW:w.heap.size+1<W.heap.size:=by omega
 clear hsW
 have HC:Hid (∀ w'',Below W.heap.size W w''→w''.cell? ⟨w.heap.size,0,none⟩=some (.bool h)∧w''.cell? ⟨w.heap.size,1,none⟩=some (.int .i64 k)∧w''.cell? ⟨w.heap.size,2,none⟩=some (.slice aI ints.length cI)∧w''.cell? ⟨w.heap.size,3,none⟩=some (.slice aR refs.length cR)):=by
  intro w'' hh
  have ba:=b0.below hh b0.lt
  exact ⟨ba.cell 0 _ rfl,ba.cell 1 _ rfl,ba.cell 2 _ rfl,ba.cell 3 _ rfl⟩
 have HB:Hid (∀ w'',Below W.heap.size W w''→Box w'' w.heap.size [.bool h,.int .i64 k,.slice aI ints.length cI,.slice aR refs.length cR] 44∧Box w'' (w.heap.size+1) [.bool false,.int .i64 0,.slice none 0 0,.slice none 0 0] 44):=fun w'' hh=>⟨b0.below hh b0.lt,b1.below hh b1.lt⟩
 have hh:=HC.out W (Below.refl _ _)
 have hne:¬ (w.heap.size=w.heap.size+1):=by omega
 clear b0 b1
 go_enter Tryz.func120,Tryz.ntmps120
 go_wp2_with fail
 rw [hW.out]
 clear hW
 go_region_held3 (fun w''=>w''.cell? ⟨w.heap.size,0,none⟩=some (.bool h)∧w''.cell? ⟨w.heap.size,1,none⟩=some (.int .i64 k)∧w''.cell? ⟨w.heap.size,2,none⟩=some (.slice aI ints.length cI)∧w''.cell? ⟨w.heap.size,3,none⟩=some (.slice aR refs.length cR))
  (first | exact HC.out _ hB1 | exact HC.out _ (Below.refl _ _).drew | exact ⟨(((((HB.out _ (by first | exact hB1 | fail)).1.other hne).other hne).other hne).other hne).cell 0 _ rfl,(((((HB.out _ (by first | exact hB1 | fail)).1.other hne).other hne).other hne).other hne).cell 1 _ rfl,(((((HB.out _ (by first | exact hB1 | fail)).1.other hne).other hne).other hne).other hne).cell 2 _ rfl,(((((HB.out _ (by first | exact hB1 | fail)).1.other hne).other hne).other hne).other hne).cell 3 _ rfl⟩ | go_keep | fail)
  (first
  | (go_at_call 143;refine (l2Copy_any ⟨k,ints,refs⟩ aI cI aR cR _ hr'.drew hlI hlR).mono ?_;rintro e u1 ⟨a1,c1,a2,c2,rfl,ho1,hb1⟩;have hB1:Below W.heap.size W u1:=((Below.refl _ _).drew).trans hb1;obtain ⟨m0,m1,m2,m3,e0,e1,e2,e3⟩:=(HB.out _ hB1).2.four)
  | fail)
 obtain ⟨WF,hWF,bF,hwF,hsF⟩:=box4_fill (HB.out _ hB1).2 (.bool h) (.int .i64 k) (.slice a1 ints.length c1) (.slice a2 refs.length c2)
 have hsu1:W.heap.size≤u1.heap.size:=hB1.size
 have hO:OwnO u1 W.heap.size u1.heap.size a1 c1 a2 c2 ⟨k,ints,refs⟩:=ho1
 have hOF:OwnO WF W.heap.size u1.heap.size a1 c1 a2 c2 ⟨k,ints,refs⟩:=hO.within hwF (.inr (by omega))
 have HBF:Hid (Below w.heap.size w WF):=(hbW.trans (hB1.mono (by omega))).trans (hwF.below (by omega) (by omega))
 rw [hWF.out]
 clear hwF ho1 hO
 go_wp2
 obtain ⟨q0,q1,q2,q3,_⟩:=bF.four
 exact bodyPost_ret (v:=.agg #[.bool h,.int .i64 k,.slice a1 ints.length c1,.slice a2 refs.length c2]) (by simp [results,Tryz.results120,go_sem,q0,q1,q2,q3]) rfl ⟨⟨⟨h,⟨k,ints,refs⟩⟩,a1,c1,a2,c2⟩,rfl,rfl,hOF.widen (by omega) (by omega) (Nat.le_refl _),HBF.out⟩
theorem l3Copy_own (p:PageA) (h4:p.ss.length=4) (w:World) (hr:ReadsS w p.ss) (hl:Fit p.ss):
  Calls Tryz.prog 85 #[.agg p.cells.toArray] w fun e w'=>∃ ts:List SlotA,e=.returned (.agg (PageA.cells ⟨p.lsn,ts⟩).toArray)∧Hid (ts.map (·.v)=p.ss.map (·.v))∧OwnS w' w.heap.size w'.heap.size ts∧Below w.heap.size w w':=by
 obtain ⟨n,ss⟩:=p
 simp only [PageA.cells] at*
 obtain ⟨W,hW,b0,b1,b2,hbW,hsW⟩:=boxes3 w (.int .i64 n::cellsS ss) [.int .i64 0,.bool false,.int .i64 0,.slice none 0 0,.slice none 0 0,.bool false,.int .i64 0,.slice none 0 0,.slice none 0 0,.bool false,.int .i64 0,.slice none 0 0,.slice none 0 0,.bool false,.int .i64 0,.slice none 0 0,.slice none 0 0] [.int .i64 n,.bool false,.int .i64 0,.slice none 0 0,.slice none 0 0,.bool false,.int .i64 0,.slice none 0 0,.slice none 0 0,.bool false,.int .i64 0,.slice none 0 0,.slice none 0 0,.bool false,.int .i64 0,.slice none 0 0,.slice none 0 0] 47 47 47
 have b1':Box W (w.heap.size+1) ([]++((.int .i64 0::cellsS zero4)++[])) 47:=b1
 have b2':Box W (w.heap.size+1+1) (.int .i64 n::cellsS ([]++List.replicate (4-0) zeroS)) 47:=b2
 have hsW':w.heap.size+1+1<W.heap.size:=by omega
 have hc0:(((w.alloc (.cells (.int .i64 n::cellsS ss).toArray 47)).alloc (.cells #[.int .i64 0,.bool false,.int .i64 0,.slice none 0 0,.slice none 0 0,.bool false,.int .i64 0,.slice none 0 0,.slice none 0 0,.bool false,.int .i64 0,.slice none 0 0,.slice none 0 0,.bool false,.int .i64 0,.slice none 0 0,.slice none 0 0] 47))).cell? ⟨w.heap.size,0,none⟩=some (.int .i64 n):=((box_new w (.int .i64 n::cellsS ss) 47).alloc _).cell 0 _ rfl
 have H4:Hid (ss.length=4):=h4
 clear b1 b2 hsW h4
 go_enter Tryz.func85,Tryz.ntmps85
 go_wp2_with fail
 rw [hW.out]
 clear hW hc0
 go_loopw [4] (fun i wr=>∃ (k:Nat) (ts:List SlotA),i=.int .i64 k∧k≤4∧Hid (ts.length=k∧ts.map (·.v)=(ss.take k).map (·.v))∧OwnS wr W.heap.size wr.heap.size ts∧Box wr (w.heap.size+1+1) (.int .i64 n::cellsS (ts++List.replicate (4-k) zeroS)) 47∧Below (w.heap.size+1+1) W wr)
  (fun i _=>4-(intOf i).toNat)
 case atStart=>exact ⟨0,[],rfl,by omega,⟨rfl,rfl⟩,OwnS.nil _ _ _,b2',Below.refl _ _⟩
 case round=>
  obtain ⟨k,ts,rfl,hk,hts,hown,hbox,hbl⟩:=hrel
  clear b2'
  have b0r:=b0.below hbl (by omega)
  have b1r:=b1'.below hbl (by omega)
  have hsr:=hbl.size
  have hsz:=hbox.lt
  by_cases hlt:k<4
  ·have hkl:k<ss.length:=by rw [H4.out];exact hlt
   obtain ⟨c0,c1,c2,c3,_⟩:=b0r.pslot k hkl
   have hi0:(0:Int)≤(k:Int):=by omega
   have hi4:(k:Int)<4:=by omega
   have hrk:=(hr _ (getD_mem hkl)).below (hbW.trans (hbl.mono (by omega)))
   have hlk:=hl _ (getD_mem hkl)
   have HV:Hid ((ss.take (k+1)).map (·.v)=(ss.take k).map (·.v)++[(ss.getD k zeroS).v]):=by
    rw [Hid,List.take_add_one,List.map_append]
    simp [List.getD,hkl]
   generalize ss.getD k zeroS=s at*
   have C:=l3CopySlot_own s wr hrk hlk.1 hlk.2
   simp only [SlotA.cells] at C
   go_wp2_with fail
   refine C.mono ?_
   clear C hrk hlk c0 c1 c2 c3
   rintro e w1 ⟨t,rfl,hv,ho,hb1⟩
   have hs1:=hb1.size
   have hbx:=hbox.below hb1 hsz
   have hkt:k<(ts++List.replicate (4-k) zeroS).length:=by have:=hts.out.1;simp;omega
   obtain ⟨W2,hW2,b2,hw2,hs2⟩:=pslot_fill hbx k hkt t
   obtain ⟨x0,x1,x2,x3,hfz⟩:=hbx.pslot k hkt
   have f0:=hfz (1+k*4)
   have f1:=hfz (1+k*4+1)
   have f2:=hfz (1+k*4+2)
   have f3:=hfz (1+k*4+3)
   generalize (ts++List.replicate (4-k) zeroS).getD k zeroS=old at*
   have b2':Box W2 (w.heap.size+1+1) (.int .i64 n::cellsS ((ts++[t])++List.replicate (4-(k+1)) zeroS)) 47:=by
    rw [show 4-k=(4-(k+1))+1 by omega] at b2
    have e:=set_snoc ts (4-(k+1)) t
    rw [hts.out.1] at e
    rw [e] at b2
    exact b2
   have hO1:OwnS w1 W.heap.size w1.heap.size (ts++[t]):=(hown.below hb1).snoc ho hsr hs1 (Nat.le_refl _)
   have hO2:OwnS W2 W.heap.size W2.heap.size (ts++[t]):=(hO1.within hw2 (.inr (by omega))).widen (Nat.le_refl _) (by omega) (Nat.le_refl _)
   have hB2:Below (w.heap.size+1+1) W W2:=(hbl.trans (hb1.mono (by omega))).trans (hw2.below (Nat.le_refl _) (by omega))
   have HT:Hid ((ts++[t]).length=k+1∧(ts++[t]).map (·.v)=(ss.take (k+1)).map (·.v)):=by
    refine ⟨by have:=hts.out.1;simp;omega,?_⟩
    rw [HV.out,List.map_append,hts.out.2,← hv.out]
    rfl
   clear hfz hs2 hw2 b2 hO1 hown hbox hbx hts HV hkt hb1 ho
   go_wp2_with fail
   rw [hW2.out]
   go_roundw
   case rel=>exact ⟨k+1,ts++[t],by go_num,by omega,HT,hO2,b2',hB2⟩
   case measure=>simp [intOf];omega
  ·obtain rfl:k=4:=by omega
   have hkk:¬ ((4:Nat):Int)<4:=by omega
   have hrp:ts++List.replicate (4-4) zeroS=ts:=by simp
   rw [hrp] at hbox
   have htl:ts.length=4:=hts.out.1
   have HMV:Hid (ts.map (·.v)=ss.map (·.v)):=by rw [Hid,hts.out.2,List.take_of_length_le (by rw [H4.out];omega)]
   obtain ⟨WF,hWF,bF,hwF,hsF⟩:=range_fill [] (.int .i64 0::cellsS zero4) (.int .i64 n::cellsS ts) [] b1r (by simp only [List.length_cons,cellsS_len,htl];rfl)
   have HWF:Hid (wr.setCells (w.heap.size+1) 0 (.int .i64 n::cellsS ts)=WF):=hWF.out
   have HR2:Hid (wr.rangeAt (w.heap.size+1+1) 0 (.int .i64 n::cellsS ts)):=Box.range [] (.int .i64 n::cellsS ts) [] (by simpa using hbox)
   have HTF:Hid (wr.there (w.heap.size+1) 0 (.int .i64 n::cellsS ts).toArray.size):=b1r.there 0 _ (by simp only [List.size_toArray,cellsS_len,htl,List.length_append,List.length_cons,List.length_nil];decide)
   have hrF:WF.rangeAt (w.heap.size+1) 0 (.int .i64 n::cellsS ts):=Box.range [] (.int .i64 n::cellsS ts) [] (by simpa using bF)
   have HI:Hid ((Tryz.prog.info? 47).map (·.size)=some (.int .i64 n::cellsS ts).length):=by rw [Hid,List.length_cons,cellsS_len,htl];kernel_rfl
   have HO:Hid (_):=all_oneCell_toArray (oneP ⟨n,ts⟩)
   have HLF:Hid (_):=run_loadVar_mid (P:=Tryz.prog) _ (w.heap.size+1) 0 47 (.int .i64 n::cellsS ts) _ hrF Tryz.underlying47 rfl HI.out
   have HOF:Hid (OwnS WF w.heap.size WF.heap.size ts):=(hown.within hwF (.inr (by omega))).widen (by omega) (by omega) (Nat.le_refl _)
   have HBF:Hid (Below w.heap.size w WF):=(hbW.trans (hbl.mono (by omega))).trans (hwF.below (by omega) (by omega))
   simp only [PageA.cells] at HO
   clear hWF bF hwF hsF hrF hrp htl hbox hown hts
   go_wp2_with (first | (guard_target=wpList _ _ _ (Oper.mk (some 20) _ _ _ _ _::_) _ _;refine wpList_load_mid rfl 47 (.tmp 3) rfl (w.heap.size+1+1) 0 rfl (.int .i64 n::cellsS ts) _ HR2.out Tryz.underlying47 rfl HI.out ?_) | (guard_target=wpList _ _ _ (Oper.mk none (Op.store _ (Operand.tmp 2) _) _ _ _ _::_) _ _;refine wpList_store_mid rfl 47 (.tmp 2) (.tmp 20) rfl (w.heap.size+1) 0 (.int .i64 n::cellsS ts).toArray rfl rfl HTF.out (by rw [List.size_toArray];exact HI.out) HO.out ?_) | fail)
   rw [HWF.out]
   exact bodyPost_ret (v:=.agg (.int .i64 n::cellsS ts).toArray) (results_one Tryz.results85 rfl HLF.out) rfl ⟨ts,rfl,HMV,HOF.out,HBF.out⟩
theorem copyInts_any (a:Option Addr) (cap:Nat) (zs:List Int) (w:World) (hr:ReadsI w a zs) (hl:zs.length≤1099511627776):
  Calls Tryz.prog 131 #[.slice a zs.length cap] w fun e w'=>∃ a' c',e=.returned (.slice a' zs.length c')∧OwnI w' w.heap.size w'.heap.size a' c' zs∧Below w.heap.size w w':=by
 obtain ⟨i0,hi,hz0,hz1,hz2⟩:=info_parts Tryz.infoInt
 rcases hr.cases with rfl | ⟨b,off,rfl,hpos,hcell⟩
 ·go_enter Tryz.func131,Tryz.ntmps131
  go_wp2
  go_ret
  exact ⟨none,0,rfl,ownI_nil _ _ _ (Nat.le_refl _),Below.refl _ _⟩
 ·have hnz:((zs.length:Int) == 0)=false:=by simp;intro e;simp [e] at hpos
  have hsz:(Tryz.prog.info? 3).map (·.size)=some 1:=by kernel_rfl
  go_enter Tryz.func131,Tryz.ntmps131
  go_wp2_with (at_make;refine wpList_make_full _ rfl _ _ 22 rfl w.heap.size 3 i0 (.int .i64 0) 1 Tryz.underlying22 hi hz0 hz1 _ _ _ _ zs.length rfl rfl rfl rfl (by rw [hz2];omega) (by simp [maxLen];omega) (Nat.le_refl _) ?_)
  intro w0 hown0 hgrow0
  have hb0:Below w.heap.size w w0:=(Below.refl _ _).grown hgrow0 (Nat.le_refl _) (fun k h=>by cases h)
  obtain ⟨hlen,hcase⟩:=hown0
  rcases hcase with ⟨hv,_⟩ | ⟨g,cap',cur,hv,hg,hgg,hn,hm,hcs,htk⟩
  ·cases hv
  simp only [Value.slice.injEq,Option.some.injEq,Addr.mk.injEq,and_true,true_and] at hv
  obtain ⟨rfl,rfl⟩:=hv
  have hcl:cur.toList.length=zs.length:=by rw [Array.length_toList,hcs];omega
  have HC:Hid (0<(zs.map (Value.int .i64)).length→some (⟨w.heap.size,0,none⟩:Addr)=some ⟨w.heap.size,0,none⟩∧∃ ad:Addr,some (⟨b,off,none⟩:Addr)=some ad∧∀ j v,(zs.map (Value.int .i64))[j]? =some v→w0.cell? (ad.add j)=some v):=by
   intro _
   refine ⟨rfl,_,rfl,fun j v hv=>?_⟩
   rw [List.getElem?_map] at hv
   cases hzj:zs[j]? with
   | none=>rw [hzj] at hv;cases hv
   | some z=>
    rw [hzj] at hv
    simp only [Option.map_some,Option.some.injEq] at hv
    have hj:j<zs.length:=(List.getElem?_eq_some_iff.1 hzj).1
    have hc:=hcell j hj
    have hadd:(⟨b,off,none⟩:Addr).add j=⟨b,off+j,none⟩:=by unfold Addr.add;split<;>simp_all
    rw [hadd,hb0.cell (block_lt hc),hc,← hv]
    simp [List.getD,hzj]
  have HG:Hid (w0.heap[w.heap.size]? =some (.cells cur.toList.toArray 3 (0,0))):=by rw [Hid,hgg]
  have HN:Hid ((zs.map (Value.int .i64)).length=Nat.min zs.length zs.length):=by rw [Hid,List.length_map];exact (Nat.min_self _).symm
  have HFt:Hid (0+(zs.map (Value.int .i64)).length≤cur.toList.length):=by rw [Hid,List.length_map,hcl];omega
  have H1:Hid (∀ v∈zs.map (Value.int .i64),v.oneCell'=true):=fun v hv=>by obtain ⟨z,_,rfl⟩:=List.mem_map.1 hv;rfl
  have HSP:Hid (splice cur.toList 0 (zs.map (Value.int .i64))=zs.map (Value.int .i64)):=by
   unfold Hid splice
   rw [List.take_zero,List.nil_append,Nat.zero_add,List.drop_eq_nil_of_le (by rw [hcl,List.length_map];exact Nat.le_refl _),List.append_nil]
  clear hlen htk hcs hgg hgrow0 hcell hn hm
  have key:∀ {ops:Array Oper} {rest:List Oper} {o:Oper} {act:Act} {Q:Exit→Act→World→Prop},o.guard=none→o.op=.call { callee:=.builtin .copy,args:=#[.tmp 10,.tmp 11],argTypes:=#[22,22] }→act.eval (.tmp 10)=.slice (some ⟨w.heap.size,0,none⟩) zs.length zs.length→act.eval (.tmp 11)=.slice (some ⟨b,off,none⟩) zs.length cap→(∀ w1,OwnI w1 w.heap.size w1.heap.size (some ⟨w.heap.size,0,none⟩) zs.length zs→Below w.heap.size w w1→wpList Tryz.prog ops Q rest (act.put o.dst (goInt (zs.map (Value.int .i64)).length)) w1)→wpList Tryz.prog ops Q (o::rest) act w0:=by
   intro ops rest o act Q h1 h2 h3 h4 h5
   refine wpList_copy_splice h1 (.tmp 10) (.tmp 11) 22 22 h2 3 Tryz.underlying22 hsz _ _ zs.length zs.length zs.length cap h3 h4 w.heap.size 0 cur.toList 3 HG.out (zs.map (Value.int .i64)) HN.out HC.out HFt.out H1.out w.heap.size w hb0 (Nat.le_refl _) ?_
   intro w1 hrow hb1
   refine h5 w1 ?_ hb1
   have h:=hrow.out
   rw [HSP.out] at h
   refine ⟨⟨by simp,.inr ⟨w.heap.size,zs.length,_,rfl,Nat.le_refl _,h,Nat.le_refl _,by simp [maxLen];omega,by simp,by simp;exact List.take_of_length_le (by simp)⟩⟩,Nat.le_refl _,fun k hk=>?_⟩
   cases hk
   exact (Array.getElem?_eq_some_iff.1 h).1
  have KEY:Hid _:=@key
  clear key HG HN HFt H1 HSP HC hcl
  go_wp2_with (guard_target=wpList _ _ _ (Oper.mk (some 12) _ _ _ _ _::_) _ _;refine KEY.out rfl rfl rfl rfl ?_;intro w1 HO hb1)
  go_ret
  exact ⟨_,_,rfl,HO,hb1⟩
theorem copySlot_own (s:SlotA) (w:World) (hr:s.reads w) (hlI:s.v.o.ints.length≤1099511627776) (hlR:s.v.o.refs.length≤1099511627776):
  Calls Tryz.prog 97 #[.agg s.cells.toArray] w fun e w'=>∃ t:SlotA,e=.returned (.agg t.cells.toArray)∧Hid (t.v=s.v)∧t.own w' w.heap.size w'.heap.size∧Below w.heap.size w w':=by
 obtain ⟨⟨h,⟨k,ints,refs⟩⟩,aI,cI,aR,cR⟩:=s
 simp only [SlotA.cells,SlotA.reads,SlotA.own] at*
 obtain ⟨hI,hR,_,_⟩:=hr
 simp only at hI hR
 obtain ⟨W,hW,b0,b1,hbW,hsW⟩:=boxes2 w [.bool h,.int .i64 k,.slice aI ints.length cI,.slice aR refs.length cR] [.bool false,.int .i64 0,.slice none 0 0,.slice none 0 0] 44 44
 have hI':=hI.below hbW
 have hR':=hR.below hbW
 have hwW:w.heap.size+1<W.heap.size:=by omega
 clear hsW hI hR
 have HC:Hid (∀ w'',Below W.heap.size W w''→w''.cell? ⟨w.heap.size,0,none⟩=some (.bool h)∧w''.cell? ⟨w.heap.size,1,none⟩=some (.int .i64 k)∧w''.cell? ⟨w.heap.size,2,none⟩=some (.slice aI ints.length cI)∧w''.cell? ⟨w.heap.size,3,none⟩=some (.slice aR refs.length cR)):=by
  intro w'' hh
  have ba:=b0.below hh b0.lt
  exact ⟨ba.cell 0 _ rfl,ba.cell 1 _ rfl,ba.cell 2 _ rfl,ba.cell 3 _ rfl⟩
 have HB:Hid (∀ w'',Below W.heap.size W w''→Box w'' w.heap.size [.bool h,.int .i64 k,.slice aI ints.length cI,.slice aR refs.length cR] 44∧Box w'' (w.heap.size+1) [.bool false,.int .i64 0,.slice none 0 0,.slice none 0 0] 44):=fun w'' hh=>⟨b0.below hh b0.lt,b1.below hh b1.lt⟩
 have hh:=HC.out W (Below.refl _ _)
 have hne:¬ (w.heap.size=w.heap.size+1):=by omega
 clear b0 b1
 go_enter Tryz.func97,Tryz.ntmps97
 go_wp2_with fail
 rw [hW.out]
 clear hW
 go_region_held3 (fun w''=>w''.cell? ⟨w.heap.size,0,none⟩=some (.bool h)∧w''.cell? ⟨w.heap.size,1,none⟩=some (.int .i64 k)∧w''.cell? ⟨w.heap.size,2,none⟩=some (.slice aI ints.length cI)∧w''.cell? ⟨w.heap.size,3,none⟩=some (.slice aR refs.length cR))
  (first | exact HC.out _ hB2 | exact HC.out _ hB1 | exact HC.out _ (Below.refl _ _).drew | exact ⟨(((((HB.out _ (by first | exact hBL | fail)).1.other hne).other hne).other hne).other hne).cell 0 _ rfl,(((((HB.out _ (by first | exact hBL | fail)).1.other hne).other hne).other hne).other hne).cell 1 _ rfl,(((((HB.out _ (by first | exact hBL | fail)).1.other hne).other hne).other hne).other hne).cell 2 _ rfl,(((((HB.out _ (by first | exact hBL | fail)).1.other hne).other hne).other hne).other hne).cell 3 _ rfl⟩ | go_keep | fail)
  (first
  | (go_at_call_of 131 (Value.slice aI ints.length cI);refine (copyInts_any aI cI ints _ (hI'.below (by first | exact hB2 | exact (Below.refl _ _).drew | fail)) hlI).mono ?_;rintro e u1 ⟨a1,c1,rfl,ho1,hb1⟩;have hB1:Below W.heap.size W u1:=(by first | exact hB2.trans (hb1.mono hB2.size) | exact ((Below.refl _ _).drew).trans hb1 | fail);have hBL:=hB1;obtain ⟨m0,m1,m2,m3,e0,e1,e2,e3⟩:=(HB.out _ hB1).2.four)
  | (go_at_call_of 131 (Value.slice aR refs.length cR);refine (copyInts_any aR cR refs _ (hR'.below (by first | exact hB1 | exact (Below.refl _ _).drew | fail)) hlR).mono ?_;rintro e u2 ⟨a2,c2,rfl,ho2,hb2⟩;have hB2:Below W.heap.size W u2:=(by first | exact hB1.trans (hb2.mono hB1.size) | exact ((Below.refl _ _).drew).trans hb2 | fail);have hBL:=hB2;obtain ⟨n0,n1,n2,n3,f0,f1,f2,f3⟩:=(HB.out _ hB2).2.four)
  | fail)
 obtain ⟨WF,hWF,bF,hwF,hsF⟩:=box4_fill (HB.out _ hB2).2 (.bool h) (.int .i64 k) (.slice a1 ints.length c1) (.slice a2 refs.length c2)
 have ho1':OwnI u1 W.heap.size u1.heap.size a1 c1 ints:=ho1
 have hsu1:W.heap.size≤u1.heap.size:=hB1.size
 have hsu2:=hb2.size
 have hO:OwnO u2 W.heap.size u2.heap.size a1 c1 a2 c2 ⟨k,ints,refs⟩:=⟨(ho1'.below hb2).widen (Nat.le_refl _) hsu2 (Nat.le_refl _),ho2.widen hsu1 (Nat.le_refl _) (Nat.le_refl _),fun j hj hj'=>by have h1:=(ho1'.lt j hj).2;have h2:=(ho2.lt j hj').1;omega⟩
 have hOF:OwnO WF W.heap.size u2.heap.size a1 c1 a2 c2 ⟨k,ints,refs⟩:=hO.within hwF (.inr (by omega))
 have HBF:Hid (Below w.heap.size w WF):=(hbW.trans (hB2.mono (by omega))).trans (hwF.below (by omega) (by omega))
 rw [hWF.out]
 clear hwF ho1 ho2 ho1' hO
 go_wp2
 obtain ⟨q0,q1,q2,q3,_⟩:=bF.four
 exact bodyPost_ret (v:=.agg #[.bool h,.int .i64 k,.slice a1 ints.length c1,.slice a2 refs.length c2]) (by simp [results,Tryz.results97,go_sem,q0,q1,q2,q3]) rfl ⟨⟨⟨h,⟨k,ints,refs⟩⟩,a1,c1,a2,c2⟩,rfl,rfl,hOF.widen (by omega) (by omega) (Nat.le_refl _),HBF.out⟩
end Go.Proofs.YtfehemepdoomdaaGreatDoor
namespace Go.Proofs.YtfehemepdoomdaaGreatDoor
def wpAnyL (P:Program) (md:Region.Mode) (ops:Array Oper) (Q:Exit→Act→World→Prop) (S:World→Prop) (ks:Nat→Bool):Nat→Array Bool→Act→World→Prop
 | 0,listed,a,w=>Region.ready md ops listed=[]∧Q .normal a w
 | fuel+1,listed,a,w=>
  (Region.ready md ops listed=[]→Q .normal a w)∧
  ∀ i∈Region.ready md ops listed,wpOp P ops Q i (fun a' w'=>(ks i=false→S w')∧wpAnyL P md ops Q S ks fuel (listed.setIfInBounds i true) a' w') a w
theorem wpAny_of_late {P:Program} {ops:Array Oper} {Q:Exit→Act→World→Prop} {md:Region.Mode} {S:World→Prop} {ks:Nat→Bool}:∀ (fuel:Nat) (listed:Array Bool) (a:Act) (w:World),wpAnyL P md ops Q S ks fuel listed a w→wpAny P md ops Q fuel listed a w
 | 0,_,_,_,h=>h
 | fuel+1,_,_,_,h=>⟨h.1,fun i hi=>wpOp_mono (fun a' w' h'=>wpAny_of_late fuel _ a' w' h'.2) (h.2 i hi)⟩
def lateAll (md:Region.Mode) (ops:Array Oper) (ks:Nat→Bool) (i:Nat):Bool:=
 (List.range ops.size).all fun j=> !ks j || match ops[j]? with
  | some o=>o.after.any (fun e=>Region.binds md e && e.on == i)
  | none=>true
theorem lateAll_spec {md:Region.Mode} {ops:Array Oper} {ks:Nat→Bool} {i:Nat} (h:lateAll md ops ks i=true) (j:Nat) (oj:Oper) (hj:ops[j]? =some oj) (hk:ks j=true):∃ e∈oj.after,Region.binds md e=true∧e.on=i:=by
 unfold lateAll at h
 rw [List.all_eq_true] at h
 have hl:j<ops.size:=by
  rcases Nat.lt_or_ge j ops.size with h' | h'
  ·exact h'
  ·rw [Array.getElem?_eq_none h'] at hj;cases hj
 have:=h j (List.mem_range.2 hl)
 rw [hk,hj] at this
 simp only [Bool.not_true,Bool.false_or,Array.any_eq_true'] at this
 obtain ⟨e,he,hb⟩:=this
 rw [Bool.and_eq_true,beq_iff_eq] at hb
 exact ⟨e,he,hb.1,hb.2⟩
theorem wpAnyL_first {P:Program} {ops:Array Oper} {Q:Exit→Act→World→Prop} {md:Region.Mode} {S:World→Prop} {ks:Nat→Bool} {i:Nat} {oi:Oper} {v:Value} (hi:ops[i]? =some oi) (hsel:∀ (j:Nat) (o:Oper) cs b,ops[j]? =some o→o.op≠.select cs b)
  (hQ:∀ c a w,Q (.panic c) (a.put oi.dst v) w→Q (.panic c) a w) (hlate:∀ j oj,ops[j]? =some oj→ks j=true→∃ e∈oj.after,Region.binds md e=true∧e.on=i):
  ∀ (fuel:Nat) (listed:Array Bool) (a:Act) (w:World),
   (∀ j oj,ops[j]? =some oj→j≠i→listed.getD j true=false→(∀ e∈oj.after,Region.binds md e=true→e.on≠i)→oi.apart ops oj=true)→
   i∈Region.ready md ops listed→YieldsIf P ops S oi v a→S w→
   wpAnyL P md ops Q S ks fuel (listed.setIfInBounds i true) (a.put oi.dst v) w→wpAnyL P md ops Q S ks (fuel+1) listed a w:=by
 intro fuel
 induction fuel with
 | zero=>
  intro listed a w _ hr hy hS H
  refine ⟨fun h=>(by rw [h] at hr;cases hr),fun j hj=>?_⟩
  by_cases hji:j=i
  ·subst hji;exact hy.wpOp hi hS ⟨fun _=>hS,H⟩
  ·have:=ready_mono hj hji
   rw [H.1] at this
   cases this
 | succ fuel ih=>
  intro listed a w hfree hr hy hS H
  refine ⟨fun h=>(by rw [h] at hr;cases hr),fun j hj=>?_⟩
  by_cases hji:j=i
  ·subst hji;exact hy.wpOp hi hS ⟨fun _=>hS,H⟩
  ·have h1:=H.2 j (ready_mono hj hji)
   obtain ⟨hjun,oj,hoj,hall⟩:=mem_ready.1 hj
   have hnot:∀ e∈oj.after,Region.binds md e=true→e.on≠i:=fun e he hb heq=>by
    have h1:=hall e he hb
    have h0:=(mem_ready.1 hr).1
    rw [heq] at h1
    rcases Nat.lt_or_ge i listed.size with h' | h'
    ·simp [h'] at h0 h1;rw [h0] at h1;cases h1
    ·simp [Array.getElem?_eq_none h'] at h1
   have hkj:ks j=false:=by
    cases hk:ks j with
    | false=>rfl
    | true=>
     obtain ⟨e,he,hb,ho⟩:=hlate j oj hoj hk
     exact absurd ho (hnot e he hb)
   have h2:=wpOp_putIf hoj (hfree j oj hoj hji hjun hnot) (fun cs b=>hsel i oi cs b hi) (fun cs b=>hsel j oj cs b hoj) hQ hy h1
   have hfree':∀ k ok,ops[k]? =some ok→k≠i→(listed.setIfInBounds j true).getD k true=false→
     (∀ e∈ok.after,Region.binds md e=true→e.on≠i)→oi.apart ops ok=true:=fun k ok hk hki hun hno=>by
    refine hfree k ok hk hki ?_ hno
    by_cases hjk:j=k
    ·subst hjk;exact hjun
    ·rw [getD_set_ne true hjk] at hun;exact hun
   refine wpOp_mono (fun a' w' h3=>⟨fun _=>h3.2.1 hkj,ih (listed.setIfInBounds j true) a' w' hfree' (ready_mono hr (Ne.symm hji)) h3.1 (h3.2.1 hkj) ?_⟩) h2
   rw [Array.setIfInBounds_comm _ _ hji]
   exact h3.2.2
theorem wpAnyL_take {P:Program} {ops:Array Oper} {Q:Exit→Act→World→Prop} {md:Region.Mode} {S:World→Prop} {ks:Nat→Bool} {i:Nat} {oi:Oper} {v:Value} {fuel:Nat} {listed:Array Bool} {a:Act} {w:World} (hi:ops[i]? =some oi)
  (hs:(Region.noSelect ops && (Region.free md ops listed i && ((Region.ready md ops listed).contains i && lateAll md ops ks i)))=true)
  (hQ:∀ c a w,Q (.panic c) (a.put oi.dst v) w→Q (.panic c) a w) (hy:YieldsIf P ops S oi v a) (hS:S w)
  (h:wpAnyL P md ops Q S ks fuel (listed.setIfInBounds i true) (a.put oi.dst v) w):wpAnyL P md ops Q S ks (fuel+1) listed a w:=by
 rw [Bool.and_eq_true,Bool.and_eq_true,Bool.and_eq_true] at hs
 exact wpAnyL_first hi (Region.noSelect_spec hs.1) hQ (lateAll_spec hs.2.2.2) fuel listed a w (Region.free_spec hi hs.2.1) (by simpa using hs.2.2.1) hy hS h
def AllReadyL (P:Program) (md:Region.Mode) (ops:Array Oper) (Q:Exit→Act→World→Prop) (S:World→Prop) (ks:Nat→Bool) (fuel:Nat) (listed:Array Bool) (a:Act) (w:World) (rs:List Nat):Prop:=
 ∀ i∈rs,wpOp P ops Q i (fun a' w'=>(ks i=false→S w')∧wpAnyL P md ops Q S ks fuel (listed.setIfInBounds i true) a' w') a w
theorem AllReadyL.nil {P:Program} {ops:Array Oper} {Q:Exit→Act→World→Prop} {md:Region.Mode} {S:World→Prop} {ks:Nat→Bool} {fuel:Nat} {listed:Array Bool} {a:Act} {w:World}:AllReadyL P md ops Q S ks fuel listed a w []:=fun _ h=>by cases h
theorem AllReadyL.cons {P:Program} {ops:Array Oper} {Q:Exit→Act→World→Prop} {md:Region.Mode} {S:World→Prop} {ks:Nat→Bool} {fuel:Nat} {listed:Array Bool} {a:Act} {w:World} {i:Nat} {o:Oper} {rs:List Nat} (ho:ops[i]? =some o)
  (h:∀ K':Act→World→Prop,Shut (∀ a w,(ks i=false→S w)→((ks i=false→S w)→wpAnyL P md ops Q S ks fuel (listed.setIfInBounds i true) a w)→K' a w)→if Region.wanted o (yielded ops a.tmps)=true then Oper.wp P o a w K' Q else K' (a.put o.dst undef) w)
  (hs:AllReadyL P md ops Q S ks fuel listed a w rs):AllReadyL P md ops Q S ks fuel listed a w (i::rs):=fun j hj=>by
 rcases List.mem_cons.1 hj with rfl | hj
 ·exact wpOp_step ho (fun K' hK=>h K' (fun a w hS hW=>hK a w ⟨hS,hW hS⟩))
 ·exact hs j hj
theorem wpAnyL_ready {P:Program} {ops:Array Oper} {Q:Exit→Act→World→Prop} {md:Region.Mode} {S:World→Prop} {ks:Nat→Bool} {rs:List Nat} {fuel:Nat} {listed:Array Bool} {a:Act} {w:World} (hr:Region.ready md ops listed=rs) (hne:rs≠[])
  (h:AllReadyL P md ops Q S ks fuel listed a w rs):wpAnyL P md ops Q S ks (fuel+1) listed a w:=⟨fun h0=>absurd (hr▸h0) hne,hr▸h⟩
theorem wpAnyL_next {P:Program} {ops:Array Oper} {Q:Exit→Act→World→Prop} {md:Region.Mode} {S:World→Prop} {ks:Nat→Bool} (i:Nat) {o:Oper} {fuel:Nat} {listed:Array Bool} {a:Act} {w:World} (hr:Region.ready md ops listed=[i]) (ho:ops[i]? =some o)
  (h:∀ K':Act→World→Prop,Shut (∀ a w,S w→(S w→wpAnyL P md ops Q S ks fuel (listed.setIfInBounds i true) a w)→K' a w)→if Region.wanted o (yielded ops a.tmps)=true then Oper.wp P o a w K' Q else K' (a.put o.dst undef) w):wpAnyL P md ops Q S ks (fuel+1) listed a w:=
 wpAnyL_ready hr (by simp) (AllReadyL.cons ho (fun K' hK=>h K' (fun a w hS hW=>hK.out a w (fun _=>hS) (fun _=>hW hS))) AllReadyL.nil)
theorem wpAnyL_last {P:Program} {ops:Array Oper} {Q:Exit→Act→World→Prop} {md:Region.Mode} {S:World→Prop} {ks:Nat→Bool} (i:Nat) {o:Oper} {fuel:Nat} {listed:Array Bool} {a:Act} {w:World} (hr:Region.ready md ops listed=[i]) (ho:ops[i]? =some o) (hk:ks i=true)
  (h:∀ K':Act→World→Prop,Shut (∀ a w,wpAnyL P md ops Q S ks fuel (listed.setIfInBounds i true) a w→K' a w)→if Region.wanted o (yielded ops a.tmps)=true then Oper.wp P o a w K' Q else K' (a.put o.dst undef) w):wpAnyL P md ops Q S ks (fuel+1) listed a w:=
 wpAnyL_ready hr (by simp) (AllReadyL.cons ho (fun K' hK=>h K' (fun a w hW=>hK.out a w (fun h=>by rw [hk] at h;cases h) (fun _=>hW))) AllReadyL.nil)
theorem wpAnyL_done {P:Program} {ops:Array Oper} {Q:Exit→Act→World→Prop} {md:Region.Mode} {S:World→Prop} {ks:Nat→Bool} {listed:Array Bool} {a:Act} {w:World} (hr:Region.ready md ops listed=[]) (h:Q .normal a w):
  ∀ fuel,wpAnyL P md ops Q S ks fuel listed a w
 | 0=>⟨hr,h⟩
 | _+1=>⟨fun _=>h,by rw [hr];simp⟩
theorem wp_region_late {P:Program} {ops:Array Oper} {Q:Exit→Act→World→Prop} {S:World→Prop} (ks:Nat→Bool) {id:Nat} {a:Act} {w:World} (hm:P.follows .mixedOrders=true) (hS:S w.drew)
  (h:S w.drew→wpAnyL P .any ops Q S ks ops.size (Array.replicate ops.size false) a w.drew):(Code.region id ops true).wp P Q a w:=
 wp_region_any hm (wpAny_of_late _ _ _ _ (h hS))
end Go.Proofs.YtfehemepdoomdaaGreatDoor
namespace Go.Proofs.YtfehemepdoomdaaGreatDoor
open Go.RowKit
def markL1 (k0:Int) (i:Nat):LiveV:=⟨k0+3*i,k0+3*i+1,((k0+3*i+1+1) % 3 == 0)⟩
def marksL (k0:Int) (n:Nat):List LiveV:=(List.range n).map fun i:Nat=>markL1 k0 i
theorem marksL_len (k0:Int) (n:Nat):(marksL k0 n).length=n:=by simp [marksL]
theorem marksL_at (k0:Int) (n i:Nat) (h:i<n):(marksL k0 n).getD i zeroL=markL1 k0 i:=by simp [marksL,List.getD,h]
theorem marksL_succ (k0:Int) (n:Nat):marksL k0 (n+1)=marksL k0 n++[markL1 k0 n]:=by simp [marksL,List.range_succ]
def markedL (k0:Int) (xs:List LiveV) (k:Nat):List LiveV:=marksL k0 k++xs.drop k
theorem markedL_len (k0:Int) (xs:List LiveV) (k:Nat) (h:k≤xs.length):(markedL k0 xs k).length=xs.length:=by simp [markedL,marksL_len];omega
theorem markedL_set (k0:Int) (xs:List LiveV) (k:Nat) (h:k<xs.length):(markedL k0 xs k).set k (markL1 k0 k)=markedL k0 xs (k+1):=by
 unfold markedL
 rw [List.set_append,if_neg (by rw [marksL_len];omega),marksL_len,Nat.sub_self,marksL_succ,List.drop_eq_getElem_cons h,List.set_cons_zero]
 simp
theorem markedL_all (k0:Int) (xs:List LiveV):markedL k0 xs xs.length=marksL k0 xs.length:=by simp [markedL]
theorem markLiveS_any (base:Nat) (a:Option Addr) (cap:Nat) (k0:Int) (xs:List LiveV) (w:World)
  (hown:w.ownsRow base 106 3 (.slice a xs.length cap) xs.length (cellsL xs)) (h0:0≤k0) (hl:k0+3*xs.length≤4611686018427387904):
  Calls Tryz.prog 36 #[.slice a xs.length cap,.int .i64 k0] w fun e w'=>e=.returned (.int .i64 (k0+3*xs.length))∧
   w'.ownsRow base 106 3 (.slice a xs.length cap) xs.length (cellsL (marksL k0 xs.length))∧w.grownBy w' (Value.slice a xs.length cap).ownBlock:=by
 have hlen:=hown.1
 rcases hown.2 with ⟨hv,h00⟩ | ⟨g,cap',cur,hv,hg,hgg,hr⟩
 ·simp only [Value.slice.injEq] at hv
  obtain ⟨rfl,h00',rfl⟩:=hv
  obtain rfl:=List.length_eq_zero_iff.1 h00
  go_enter Tryz.func36,Tryz.ntmps36
  go_wp2
  refine wp_loop_rounds 1 ?_
  rw [rounds_succ]
  go_wp2
  go_ret
  exact ⟨by simp,hown,World.grownBy.refl _ _⟩
 ·simp only [Value.slice.injEq] at hv
  obtain ⟨rfl,_,rfl⟩:=hv
  clear hgg hr hlen
  have hM:w.ownsRow base 106 3 (.slice (some ⟨g,0,none⟩) xs.length cap) xs.length (cellsL (markedL k0 xs 0)):=by simpa [markedL,marksL] using hown
  clear hown
  go_enter Tryz.func36,Tryz.ntmps36
  go_wp2
  go_loopw [1,5] (fun kk i wr=>∃ k:Nat,k≤xs.length∧i=.int .i64 k∧kk=.int .i64 (k0+3*k)∧wr.ownsRow base 106 3 (.slice (some ⟨g,0,none⟩) xs.length cap) xs.length (cellsL (markedL k0 xs k))∧w.grownBy wr (some g))
   (fun _ i _=>xs.length-(intOf i).toNat)
  case atStart=>exact ⟨0,Nat.zero_le _,rfl,by simp,hM,World.grownBy.refl _ _⟩
  case round=>
   obtain ⟨k,hk,rfl,rfl,hown,hgr⟩:=hrel
   clear hM
   by_cases hlt:k<xs.length
   ·have hp:=markedL_len k0 xs k hk
    obtain ⟨x0,x1,x2,hfz⟩:=row_live hown hp k hlt
    have f0:=hfz (k*3)
    have f1:=hfz (k*3+1)
    have f2:=hfz (k*3+2)
    obtain ⟨W2,hW2,ho2,hg2⟩:=row_store hown hp k hlt (markL1 k0 k)
    rw [markedL_set k0 xs k hlt] at ho2
    have HH:Hid (_∧_):=⟨ho2,grownBy_trans hgr hg2⟩
    clear ho2 hg2 hfz hown hgr
    generalize (markedL k0 xs k).getD k zeroL=old at*
    simp only [markL1] at hW2
    go_wp2
    rw [hW2.out]
    go_roundw
    case rel=>exact ⟨k+1,by omega,by go_num,by go_num,HH.out.1,HH.out.2⟩
    case measure=>simp [intOf];omega
   ·have HE:Hid (wr.ownsRow base 106 3 (.slice (some ⟨g,0,none⟩) xs.length cap) xs.length (cellsL (marksL k0 xs.length))∧k=xs.length):=by
     have e:k=xs.length:=by omega
     rw [e,markedL_all] at hown
     exact ⟨hown,e⟩
    go_wp2
    go_ret
    exact ⟨ret_int (by have:=HE.out.2;omega),HE.out.1,hgr⟩
theorem markLiveS_own (lo hi:Nat) (a:Option Addr) (cap:Nat) (k0:Int) (xs:List LiveV) (w:World) (ho:OwnL w lo hi a cap xs) (h0:0≤k0) (hl:k0+3*xs.length≤4611686018427387904):
  Calls Tryz.prog 36 #[.slice a xs.length cap,.int .i64 k0] w fun e w'=>e=.returned (.int .i64 (k0+3*xs.length))∧
   OwnL w' lo hi a cap (marksL k0 xs.length)∧Touch (Value.slice a xs.length cap).ownBlock.toList w w':=by
 refine (markLiveS_any lo a cap k0 xs w ho.1 h0 hl).mono ?_
 rintro e w' ⟨rfl,h1,h2⟩
 refine ⟨rfl,⟨by rw [marksL_len];exact h1,Nat.le_trans ho.2.1 h2.size,by rw [marksL_len];exact ho.2.2⟩,Touch.of_grown h2 (fun j hj=>Option.mem_toList.2 hj)⟩
theorem heldLiveS_any (a:Option Addr) (cap:Nat) (k0:Int) (n:Nat) (w:World) (hr:ReadsL w a (marksL k0 n)) (h0:0≤k0) (hl:k0+3*n≤4611686018427387904):
  Calls Tryz.prog 41 #[.slice a n cap,.int .i64 k0] w fun e w'=>e=.returned (.int .i64 (k0+3*n))∧w'=w:=by
 rcases hr.cases with h | ⟨b,off,rfl,hpos,hcell⟩
 ·have h':=congrArg List.length h
  rw [marksL_len] at h'
  simp at h'
  subst h'
  go_enter Tryz.func41,Tryz.ntmps41
  go_wp2
  refine wp_loop_rounds 1 ?_
  rw [rounds_succ]
  go_wp2
  go_ret
  exact ⟨by simp,rfl⟩
 ·rw [marksL_len] at hpos hcell
  go_enter Tryz.func41,Tryz.ntmps41
  go_wp2
  go_loop [1,5] (fun kk i=>∃ k:Nat,k≤n∧i=.int .i64 k∧kk=.int .i64 (k0+3*k)) (fun _ i=>n-(intOf i).toNat)
  case atStart=>exact ⟨0,Nat.zero_le _,rfl,by simp⟩
  case round=>
   obtain ⟨k,hk,rfl,rfl⟩:=hrel
   by_cases hlt:k<n
   ·obtain ⟨c0,c1,c2⟩:=hcell k hlt
    rw [marksL_at k0 n k hlt] at c0 c1 c2
    simp only [markL1] at c0 c1 c2
    clear hcell
    go_wp2
    go_round
    case rel=>exact ⟨k+1,by omega,by go_num,by go_num⟩
    case measure=>simp [intOf];omega
   ·have HE:Hid (k=n):=by show k=n;omega
    go_wp2
    go_ret
    exact ⟨ret_int (by have:=HE.out;omega),rfl⟩
end Go.Proofs.YtfehemepdoomdaaGreatDoor
namespace Go.Proofs.YtfehemepdoomdaaGreatDoor
open Go.RowKit Go.Maps Go.MapKept
structure ClaimV where
 key:Int
 tx:Int
 place:Int
def ClaimV.ent (m:ClaimV):Value × Value:=(.int .i64 m.key,.agg #[.int .i64 m.tx,.int .i64 m.place])
def MapAt (w:World) (B:Nat) (ms:List ClaimV):Prop:=∃ es clock,w.heap[B]? =some (.map es clock)∧es.toList.map (fun e=>(e.key,e.val))=ms.map ClaimV.ent
def findC (k:Int):List ClaimV→Nat→Option (Nat × Value)
 | [],_=>none
 | m::r,i=>if k=m.key then some (i,m.ent.2) else findC k r (i+1)
def putC (c:ClaimV):List ClaimV→List ClaimV
 | []=>[c]
 | m::r=>if c.key=m.key then c::r else m::putC c r
def getC (k:Int):List ClaimV→Option ClaimV
 | []=>none
 | m::r=>if k=m.key then some m else getC k r
theorem MapAt.lt {w:World} {B:Nat} {ms:List ClaimV} (h:MapAt w B ms):B<w.heap.size:=by
 obtain ⟨es,clock,hb,_⟩:=h
 rcases Nat.lt_or_ge B w.heap.size with h | h
 ·exact h
 ·rw [Array.getElem?_eq_none h] at hb;cases hb
theorem MapAt.below {w w':World} {B:Nat} {ms:List ClaimV} (h:MapAt w B ms) (hb:Below w.heap.size w w'):MapAt w' B ms:=by
 have hl:=h.lt
 obtain ⟨es,clock,h1,h2⟩:=h
 exact ⟨es,clock,by rw [hb.block B hl];exact h1,h2⟩
theorem MapAt.touch {w w':World} {B:Nat} {ms:List ClaimV} {bl:List Nat} (h:MapAt w B ms) (ht:Touch bl w w') (hn:B∉bl):MapAt w' B ms:=by
 have hl:=h.lt
 obtain ⟨es,clock,h1,h2⟩:=h
 exact ⟨es,clock,by rw [ht.block B hl hn];exact h1,h2⟩
theorem mapAt_made (w:World):MapAt (w.alloc (.map #[] 0)) w.heap.size []:=⟨#[],0,(heap_alloc w _).1,rfl⟩
theorem findNow_c (k:Int):∀ (ms:List ClaimV) (l:List MapEntry) (i:Nat),l.map (fun e=>(e.key,e.val))=ms.map ClaimV.ent→Instr.findNow (.int .i64) (.int .i64 k) l i=some (findC k ms i):=by
 intro ms
 induction ms with
 | nil=>intro l i h;cases l with
  | nil=>rfl
  | cons e r=>simp at h
 | cons m r ih=>
  intro l i h
  cases l with
  | nil=>simp at h
  | cons e q=>
   simp only [List.map_cons,List.cons.injEq,ClaimV.ent,Prod.mk.injEq] at h
   obtain ⟨⟨h1,h2⟩,h3⟩:=h
   have h4:=ih q (i+1) (by simpa [ClaimV.ent] using h3)
   rw [Instr.findNow,h1,findC]
   by_cases hk:k=m.key
   ·subst hk
    simp [Instr.sameNow,h2,ClaimV.ent]
   ·have hkb:(k == m.key)=false:=by simpa using hk
    simp [Instr.sameNow,hk,h4,hkb]
theorem findC_cases (k:Int):∀ (ms:List ClaimV) (i:Nat),(findC k ms i=none∧getC k ms=none∧∀ c:ClaimV,c.key=k→putC c ms=ms++[c])∨∃ (j:Nat) (m:ClaimV),ms[j]? =some m∧m.key=k∧findC k ms i=some (i+j,m.ent.2)∧getC k ms=some m∧∀ c:ClaimV,c.key=k→putC c ms=ms.set j c:=by
 intro ms
 induction ms with
 | nil=>intro i;exact .inl ⟨rfl,rfl,fun c hc=>rfl⟩
 | cons m r ih=>
  intro i
  by_cases hk:k=m.key
  ·refine .inr ⟨0,m,rfl,hk.symm,by rw [findC,if_pos hk];rfl,by rw [getC,if_pos hk],fun c hc=>?_⟩
   rw [putC,if_pos (by rw [hc,hk]),List.set_cons_zero]
  ·rcases ih (i+1) with ⟨h1,h2,h3⟩ | ⟨j,n,h1,h2,h3,h4,h5⟩
   ·exact .inl ⟨by rw [findC,if_neg hk];exact h1,by rw [getC,if_neg hk];exact h2,fun c hc=>by rw [putC,if_neg (by rw [hc];exact hk),h3 c hc];rfl⟩
   ·refine .inr ⟨j+1,n,by simpa using h1,h2,by rw [findC,if_neg hk,h3];congr 2;omega,by rw [getC,if_neg hk];exact h4,fun c hc=>?_⟩
    rw [putC,if_neg (by rw [hc];exact hk),h5 c hc,List.set_cons_succ]
theorem isKey_int (k:Int):IsKey (.int .i64) (.int .i64 k):=rfl
theorem kv_modify (l:List MapEntry) (j:Nat) (f:MapEntry→MapEntry) (v:Value × Value) (hf:∀ e,((f e).key,(f e).val)=v):(l.modify j f).map (fun e=>(e.key,e.val))=(l.map (fun e=>(e.key,e.val))).set j v:=by
 induction l generalizing j with
 | nil=>simp
 | cons e r ih=>
  cases j with
  | zero=>simp [hf]
  | succ j=>simp [ih j]
theorem run_update_c {w:World} {B:Nat} {ms:List ClaimV} (h:MapAt w B ms) (c:ClaimV):
  ∃ w',(Instr.mapUpdate 117 (.map (some B)) (.int .i64 c.key) (.agg #[.int .i64 c.tx,.int .i64 c.place])).run Tryz.prog w=.ok () w'∧MapAt w' B (putC c ms)∧w.grownBy w' (some B):=by
 obtain ⟨es,clock,hb,he⟩:=h
 have hck:=run_checkKey (P:=Tryz.prog) (w:=w) Tryz.underlying3 (isKey_int c.key) false 9999
 have hfd:=run_findKey (P:=Tryz.prog) (w:=w) (kt:=3) Tryz.underlying3 (findNow_c c.key ms es.toList 0 he)
 have hgo:(getObj B).run Tryz.prog w=.ok (.map es clock) w:=by simp [getObj,Sem.run,hb]
 have hgr:∀ o:Obj,w.grownBy { w with heap:=w.heap.setIfInBounds B o } (some B):=fun o=>⟨rfl,rfl,rfl,by simp,fun i _ hi=>(heap_set hb).2 i (fun e=>hi (by rw [e]))⟩
 rcases findC_cases c.key ms 0 with ⟨h1,_,h3⟩ | ⟨j,m,h1,h2,h3,_,h5⟩
 ·rw [h1] at hfd
  refine ⟨{ w with heap:=w.heap.setIfInBounds B (.map (es.push { key:=.int .i64 c.key,val:=.agg #[.int .i64 c.tx,.int .i64 c.place],born:=clock }) (clock+1)) },?_,⟨_,_,(heap_set hb).1,?_⟩,hgr _⟩
  ·simp only [Instr.mapUpdate,Sem.run_bind,run_underlying Tryz.underlying117,Result.andThen,hgo,hck,hfd,run_setObj_map _ hb]
  ·rw [h3 c rfl,Array.toList_push,List.map_append,List.map_append,he];rfl
 ·rw [h3] at hfd
  have hold:((es[0+j]?).map (·.key)).getD (.int .i64 c.key)=.int .i64 c.key:=by
   have e:=congrArg (fun l=>l[j]?) he
   simp only [List.getElem?_map,h1,Option.map_some,ClaimV.ent] at e
   rw [Nat.zero_add]
   rw [← Array.getElem?_toList]
   cases hq:es.toList[j]? with
   | none=>rfl
   | some x=>
    rw [hq] at e
    simp only [Option.map_some,Option.some.injEq,Prod.mk.injEq] at e
    simp [e.1,h2]
  have hst:(Instr.keyThatStays (.int .i64 c.key) (.int .i64 c.key)).run Tryz.prog w=.ok (.int .i64 c.key) w:=by
   have:Instr.sameBits 10000 (.int .i64 c.key) (.int .i64 c.key)=true:=by simp [Instr.sameBits]
   simp [Instr.keyThatStays,this]
  refine ⟨{ w with heap:=w.heap.setIfInBounds B (.map (es.modify (0+j) fun e=>{ e with key:=.int .i64 c.key,val:=.agg #[.int .i64 c.tx,.int .i64 c.place] }) clock) },?_,⟨_,_,(heap_set hb).1,?_⟩,hgr _⟩
  ·simp only [Instr.mapUpdate,Sem.run_bind,run_underlying Tryz.underlying117,Result.andThen,hgo,hck,hfd,hold,hst,run_setObj_map _ hb]
  ·rw [h5 c rfl,Array.toList_modify,kv_modify _ _ _ c.ent (fun e=>rfl),he,List.map_set,Nat.zero_add]
theorem zeroClaim (w:World):(zeroValue 152).run Tryz.prog w=.ok (.agg #[.int .i64 0,.int .i64 0]) w:=by kernel_rfl
def atC (k:Int) (ms:List ClaimV):ClaimV:=(getC k ms).getD ⟨k,0,0⟩
theorem run_look_c {w:World} {B:Nat} {ms:List ClaimV} (h:MapAt w B ms) (k:Int) (ok:Bool):
  (Instr.lookup 117 (.map (some B)) (.int .i64 k) ok).run Tryz.prog w=.ok (if ok then .tuple #[.agg #[.int .i64 (atC k ms).tx,.int .i64 (atC k ms).place],.bool (getC k ms).isSome] else .agg #[.int .i64 (atC k ms).tx,.int .i64 (atC k ms).place]) w:=by
 obtain ⟨es,clock,hb,he⟩:=h
 have hck:=run_checkKey (P:=Tryz.prog) (w:=w) Tryz.underlying3 (isKey_int k) es.isEmpty 9999
 have hfd:=run_findKey (P:=Tryz.prog) (w:=w) (kt:=3) Tryz.underlying3 (findNow_c k ms es.toList 0 he)
 have hgo:(getObj B).run Tryz.prog w=.ok (.map es clock) w:=by simp [getObj,Sem.run,hb]
 rcases findC_cases k ms 0 with ⟨h1,h2,_⟩ | ⟨j,m,h1,h2,h3,h4,_⟩
 ·rw [h1] at hfd
  simp only [Instr.lookup,Sem.run_bind,run_underlying Tryz.underlying117,Result.andThen,hgo,hck,hfd,zeroClaim,Sem.run_pure,atC,h2]
  cases ok<;>rfl
 ·rw [h3] at hfd
  simp only [Instr.lookup,Sem.run_bind,run_underlying Tryz.underlying117,Result.andThen,hgo,hck,hfd,Sem.run_pure,atC,h4]
  cases ok<;>rfl
theorem run_len_c {w:World} {B:Nat} {ms:List ClaimV} (h:MapAt w B ms) (ty:TypeId):(Builtin.len_ #[117] ty #[.map (some B)]).run Tryz.prog w=.ok (.int .i64 (ms.length:Int)) w:=by
 obtain ⟨es,clock,hb,he⟩:=h
 have hgo:(getObj B).run Tryz.prog w=.ok (.map es clock) w:=by simp [getObj,Sem.run,hb]
 have hl:es.size=ms.length:=by have:=congrArg List.length he;simpa using this
 simp [Builtin.len_,run_underlying Tryz.underlying117,Result.andThen,hgo,hl]
 rfl
end Go.Proofs.YtfehemepdoomdaaGreatDoor