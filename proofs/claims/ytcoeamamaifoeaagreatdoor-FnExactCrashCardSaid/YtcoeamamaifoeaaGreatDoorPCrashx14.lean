/- Several texts in one, in their order. -/
import Derived.Test.YtcoeamamaifoeaaGreatDoorPCrashx10
import Derived.Test.YtcoeamamaifoeaaGreatDoorPCrashx13
import Derived.Test.YtcoeamamaifoeaaGreatDoorPCrashx12
import Derived.Test.YtcoeamamaifoeaaGreatDoorPCrashx1
set_option maxHeartbeats 8000000
set_option maxRecDepth 100000
namespace Go.Proofs.YtcoeamamaifoeaaGreatDoor
open Go.RowKit
def deedB (n:Int) (r:RecV):Bool:=
 if r.kind == 1 then (linkB n r.tx r.prev && (inB r.oid 1 31 && (slotB r.bf && slotB r.af)))
 else if r.kind == 2 then linkB n r.tx r.prev
 else if r.kind == 3 then linkB n r.tx r.prev
 else if r.kind == 4 then (linkB n r.tx r.prev && (inB r.oid 1 31 && (slotB r.af && inB r.next 0 (n-1))))
 else if r.kind == 5 then linkB n r.tx r.prev
 else if r.kind == 6 then livesB n r.txs
 else false
def cutA (n:Int) (r:RecA):RecA:=
 if r.kind == 1 then ⟨n,r.tx,r.prev,1,r.oid,r.bf,r.af,0,[],none,0⟩
 else if r.kind == 2 then recA n r.tx r.prev 2
 else if r.kind == 3 then recA n r.tx r.prev 3
 else if r.kind == 4 then ⟨n,r.tx,r.prev,4,r.oid,zeroS,r.af,r.next,[],none,0⟩
 else if r.kind == 5 then recA n r.tx r.prev 5
 else if r.kind == 6 then ⟨n,0,0,6,0,zeroS,zeroS,0,r.txs,r.aL,r.cL⟩
 else recA 0 0 0 0
theorem one_fit {s:SlotA} (h:s.v.o.ints.length≤1099511627776∧s.v.o.refs.length≤1099511627776):Fit [s]:=fun t ht=>by obtain rfl:=List.mem_singleton.1 ht;exact h
theorem deedOk_any (n:Int) (r:RecA) (w:World) (hg:ErrT w) (hr:r.reads w) (hl:r.short 1099511627776):
  Calls Tryz.prog 128 #[.int .i64 n,deedV r] w fun e w'=>e=.returned (.bool (deedB n r.v))∧Below w.heap.size w w':=by
 cases k1:(r.kind == 1) with
 | true=>
  have e1:deedV r=issetDeed (setD r.tx r.prev r.oid r.bf r.af):=by simp [deedV,k1]
  have e2:deedB n r.v=(linkB n r.tx r.prev && (inB r.oid 1 31 && (slotB r.bf.v && slotB r.af.v))):=by simp [deedB,RecA.v,k1]
  rw [e1,e2]
  exact deedOk_set n r.tx r.prev r.oid r.bf r.af w hg hr.bf hr.af (one_fit hl.bf) (one_fit hl.af)
 | false=>
  cases k2:(r.kind == 2) with
  | true=>
   have e1:deedV r=iscommitDeed (linkD r.tx r.prev):=by simp [deedV,k1,k2]
   have e2:deedB n r.v=linkB n r.tx r.prev:=by simp [deedB,RecA.v,k1,k2]
   rw [e1,e2]
   exact deedOk_commit n r.tx r.prev w
  | false=>
   cases k3:(r.kind == 3) with
   | true=>
    have e1:deedV r=isabortDeed (linkD r.tx r.prev):=by simp [deedV,k1,k2,k3]
    have e2:deedB n r.v=linkB n r.tx r.prev:=by simp [deedB,RecA.v,k1,k2,k3]
    rw [e1,e2]
    exact deedOk_abort n r.tx r.prev w
   | false=>
    cases k4:(r.kind == 4) with
    | true=>
     have e1:deedV r=isbackDeed (backD r.tx r.prev r.oid r.af r.next):=by simp [deedV,k1,k2,k3,k4]
     have e2:deedB n r.v=(linkB n r.tx r.prev && (inB r.oid 1 31 && (slotB r.af.v && inB r.next 0 (n-1)))):=by simp [deedB,RecA.v,k1,k2,k3,k4]
     rw [e1,e2]
     exact deedOk_back n r.tx r.prev r.oid r.af r.next w hg hr.af (one_fit hl.af)
    | false=>
     cases k5:(r.kind == 5) with
     | true=>
      have e1:deedV r=isendDeed (linkD r.tx r.prev):=by simp [deedV,k1,k2,k3,k4,k5]
      have e2:deedB n r.v=linkB n r.tx r.prev:=by simp [deedB,RecA.v,k1,k2,k3,k4,k5]
      rw [e1,e2]
      exact deedOk_end n r.tx r.prev w
     | false=>
      cases k6:(r.kind == 6) with
      | true=>
       have e1:deedV r=ischeckDeed (checkD r.txs r.aL r.cL):=by simp [deedV,k1,k2,k3,k4,k5,k6]
       have e2:deedB n r.v=livesB n r.txs:=by simp [deedB,RecA.v,k1,k2,k3,k4,k5,k6]
       rw [e1,e2]
       exact deedOk_check n r.txs r.aL r.cL w hr.txs hl.txs
      | false=>
       have e1:deedV r=.nilIface:=by simp [deedV,k1,k2,k3,k4,k5,k6]
       have e2:deedB n r.v=false:=by simp [deedB,RecA.v,k1,k2,k3,k4,k5,k6]
       rw [e1,e2]
       exact deedOk_nil n w
theorem recOf_any (n:Int) (r:RecA) (w:World):
  Calls Tryz.prog 130 #[.int .i64 n,deedV r] w fun e w'=>e=.returned (.agg (cutA n r).cells.toArray)∧Below w.heap.size w w':=by
 cases k1:(r.kind == 1) with
 | true=>
  have e1:deedV r=issetDeed (setD r.tx r.prev r.oid r.bf r.af):=by simp [deedV,k1]
  have e2:cutA n r=⟨n,r.tx,r.prev,1,r.oid,r.bf,r.af,0,[],none,0⟩:=by simp [cutA,k1]
  rw [e1,e2]
  exact recOf_set n r.tx r.prev r.oid r.bf r.af w
 | false=>
  cases k2:(r.kind == 2) with
  | true=>
   have e1:deedV r=iscommitDeed (linkD r.tx r.prev):=by simp [deedV,k1,k2]
   have e2:cutA n r=recA n r.tx r.prev 2:=by simp [cutA,k1,k2]
   rw [e1,e2]
   exact recOf_commit n r.tx r.prev w
  | false=>
   cases k3:(r.kind == 3) with
   | true=>
    have e1:deedV r=isabortDeed (linkD r.tx r.prev):=by simp [deedV,k1,k2,k3]
    have e2:cutA n r=recA n r.tx r.prev 3:=by simp [cutA,k1,k2,k3]
    rw [e1,e2]
    exact recOf_abort n r.tx r.prev w
   | false=>
    cases k4:(r.kind == 4) with
    | true=>
     have e1:deedV r=isbackDeed (backD r.tx r.prev r.oid r.af r.next):=by simp [deedV,k1,k2,k3,k4]
     have e2:cutA n r=⟨n,r.tx,r.prev,4,r.oid,zeroS,r.af,r.next,[],none,0⟩:=by simp [cutA,k1,k2,k3,k4]
     rw [e1,e2]
     exact recOf_back n r.tx r.prev r.oid r.af r.next w
    | false=>
     cases k5:(r.kind == 5) with
     | true=>
      have e1:deedV r=isendDeed (linkD r.tx r.prev):=by simp [deedV,k1,k2,k3,k4,k5]
      have e2:cutA n r=recA n r.tx r.prev 5:=by simp [cutA,k1,k2,k3,k4,k5]
      rw [e1,e2]
      exact recOf_end n r.tx r.prev w
     | false=>
      cases k6:(r.kind == 6) with
      | true=>
       have e1:deedV r=ischeckDeed (checkD r.txs r.aL r.cL):=by simp [deedV,k1,k2,k3,k4,k5,k6]
       have e2:cutA n r=⟨n,0,0,6,0,zeroS,zeroS,0,r.txs,r.aL,r.cL⟩:=by simp [cutA,k1,k2,k3,k4,k5,k6]
       rw [e1,e2]
       exact recOf_check n r.txs r.aL r.cL w
      | false=>
       have e1:deedV r=.nilIface:=by simp [deedV,k1,k2,k3,k4,k5,k6]
       have e2:cutA n r=recA 0 0 0 0:=by simp [cutA,k1,k2,k3,k4,k5,k6]
       rw [e1,e2]
       exact recOf_nil n w
theorem cutA_reads (n:Int) {r:RecA} {w:World} (h:r.reads w):(cutA n r).reads w:=by
 have z:zeroS.reads w:=⟨ReadsI.nil _ _,ReadsI.nil _ _,fun _=>rfl,fun _=>rfl⟩
 have y:ReadsL w none []:=ReadsL.nil _ _
 unfold cutA
 split
 ·exact ⟨h.bf,h.af,y⟩
 split
 ·exact ⟨z,z,y⟩
 split
 ·exact ⟨z,z,y⟩
 split
 ·exact ⟨z,h.af,y⟩
 split
 ·exact ⟨z,z,y⟩
 split
 ·exact ⟨z,z,h.txs⟩
 ·exact ⟨z,z,y⟩
theorem cutA_short (n:Int) {r:RecA} {m:Nat} (h:r.short m):(cutA n r).short m:=by
 have z:zeroS.v.o.ints.length≤m∧zeroS.v.o.refs.length≤m:=⟨Nat.zero_le _,Nat.zero_le _⟩
 have y:([]:List LiveV).length≤m:=Nat.zero_le _
 unfold cutA
 split
 ·exact ⟨h.bf,h.af,y⟩
 split
 ·exact ⟨z,z,y⟩
 split
 ·exact ⟨z,z,y⟩
 split
 ·exact ⟨z,h.af,y⟩
 split
 ·exact ⟨z,z,y⟩
 split
 ·exact ⟨z,z,h.txs⟩
 ·exact ⟨z,z,y⟩
theorem isNo_same (v:SlotV):sameS noS v=isNo v:=by
 obtain ⟨h,k,i,f⟩:=v
 cases h
 ·simp [sameS,isNo,noS,noO,sameO,eq_comm]
 ·simp [sameS,isNo,noS]
theorem sameS_refl (v:SlotV):sameS v v=true:=by simp [sameS,sameO]
theorem isNo_slot {v:SlotV} (h:isNo v=true):slotB v=true:=by
 obtain ⟨b,k,i,f⟩:=v
 cases b
 ·simp [isNo,sameO] at h
  simp [slotB,h]
 ·simp [isNo] at h
theorem okV_set (n t v o:Int) (b a:SlotV) (x:Int) (l:List LiveV):((inB n 1 1000000 && ((linkB n t v && (inB o 1 31 && (slotB b && slotB a))) && sameR ⟨n,t,v,1,o,b,a,0,[]⟩ ⟨n,t,v,1,o,b,a,x,l⟩))=true) ↔ okR ⟨n,t,v,1,o,b,a,x,l⟩=true:=by
 have hb:isNo b=true→slotB b=true:=isNo_slot
 have ha:isNo a=true→slotB a=true:=isNo_slot
 simp only [sameR,sameS_refl,sameLs_nil,okR,zeroB,linkB,Bool.and_eq_true,beq_self_eq_true,beq_iff_eq,decide_eq_true_eq,Bool.true_or,Bool.false_or]
 generalize isNo b=ib at*
 generalize isNo a=ia at*
 generalize slotB b=sb at*
 generalize slotB a=sa at*
 by_cases hl:l=[]
 all_goals cases ib<;>cases ia<;>cases sb<;>cases sa<;>simp [inB,hl] at hb ha ⊢ <;>omega
theorem okR_set (r:RecA) (hk:r.kind=1):((inB r.lsn 1 1000000 && ((linkB r.lsn r.tx r.prev && (inB r.oid 1 31 && (slotB r.bf.v && slotB r.af.v))) && sameR (RecA.v (⟨r.lsn,r.tx,r.prev,1,r.oid,r.bf,r.af,0,[],none,0⟩)) r.v))=true) ↔ okR r.v=true:=by
 obtain ⟨n,t,v,k,o,b,a,x,l,aL,cL⟩:=r
 simp only at hk
 subst hk
 exact okV_set n t v o b.v a.v x l
theorem okV_commit (n t v o:Int) (b a:SlotV) (x:Int) (l:List LiveV):((inB n 1 1000000 && (linkB n t v && sameR ⟨n,t,v,2,0,noS,noS,0,[]⟩ ⟨n,t,v,2,o,b,a,x,l⟩))=true) ↔ okR ⟨n,t,v,2,o,b,a,x,l⟩=true:=by
 have hb:isNo b=true→slotB b=true:=isNo_slot
 have ha:isNo a=true→slotB a=true:=isNo_slot
 simp only [sameR,isNo_same,sameLs_nil,okR,zeroB,linkB,Bool.and_eq_true,beq_self_eq_true,beq_iff_eq,decide_eq_true_eq,Bool.true_or,Bool.false_or]
 generalize isNo b=ib at*
 generalize isNo a=ia at*
 generalize slotB b=sb at*
 generalize slotB a=sa at*
 by_cases hl:l=[]
 all_goals cases ib<;>cases ia<;>cases sb<;>cases sa<;>simp [inB,hl] at hb ha ⊢ <;>omega
theorem okR_commit (r:RecA) (hk:r.kind=2):((inB r.lsn 1 1000000 && (linkB r.lsn r.tx r.prev && sameR (RecA.v (recA r.lsn r.tx r.prev 2)) r.v))=true) ↔ okR r.v=true:=by
 obtain ⟨n,t,v,k,o,b,a,x,l,aL,cL⟩:=r
 simp only at hk
 subst hk
 exact okV_commit n t v o b.v a.v x l
theorem okV_abort (n t v o:Int) (b a:SlotV) (x:Int) (l:List LiveV):((inB n 1 1000000 && (linkB n t v && sameR ⟨n,t,v,3,0,noS,noS,0,[]⟩ ⟨n,t,v,3,o,b,a,x,l⟩))=true) ↔ okR ⟨n,t,v,3,o,b,a,x,l⟩=true:=by
 have hb:isNo b=true→slotB b=true:=isNo_slot
 have ha:isNo a=true→slotB a=true:=isNo_slot
 simp only [sameR,isNo_same,sameLs_nil,okR,zeroB,linkB,Bool.and_eq_true,beq_self_eq_true,beq_iff_eq,decide_eq_true_eq,Bool.true_or,Bool.false_or]
 generalize isNo b=ib at*
 generalize isNo a=ia at*
 generalize slotB b=sb at*
 generalize slotB a=sa at*
 by_cases hl:l=[]
 all_goals cases ib<;>cases ia<;>cases sb<;>cases sa<;>simp [inB,hl] at hb ha ⊢ <;>omega
theorem okR_abort (r:RecA) (hk:r.kind=3):((inB r.lsn 1 1000000 && (linkB r.lsn r.tx r.prev && sameR (RecA.v (recA r.lsn r.tx r.prev 3)) r.v))=true) ↔ okR r.v=true:=by
 obtain ⟨n,t,v,k,o,b,a,x,l,aL,cL⟩:=r
 simp only at hk
 subst hk
 exact okV_abort n t v o b.v a.v x l
theorem okV_back (n t v o:Int) (b a:SlotV) (x:Int) (l:List LiveV):((inB n 1 1000000 && ((linkB n t v && (inB o 1 31 && (slotB a && inB x 0 (n-1)))) && sameR ⟨n,t,v,4,o,noS,a,x,[]⟩ ⟨n,t,v,4,o,b,a,x,l⟩))=true) ↔ okR ⟨n,t,v,4,o,b,a,x,l⟩=true:=by
 have hb:isNo b=true→slotB b=true:=isNo_slot
 have ha:isNo a=true→slotB a=true:=isNo_slot
 simp only [sameR,isNo_same,sameS_refl,sameLs_nil,okR,zeroB,linkB,Bool.and_eq_true,beq_self_eq_true,beq_iff_eq,decide_eq_true_eq,Bool.true_or,Bool.false_or]
 generalize isNo b=ib at*
 generalize isNo a=ia at*
 generalize slotB b=sb at*
 generalize slotB a=sa at*
 by_cases hl:l=[]
 all_goals cases ib<;>cases ia<;>cases sb<;>cases sa<;>simp [inB,hl] at hb ha ⊢ <;>omega
theorem okR_back (r:RecA) (hk:r.kind=4):((inB r.lsn 1 1000000 && ((linkB r.lsn r.tx r.prev && (inB r.oid 1 31 && (slotB r.af.v && inB r.next 0 (r.lsn-1)))) && sameR (RecA.v (⟨r.lsn,r.tx,r.prev,4,r.oid,zeroS,r.af,r.next,[],none,0⟩)) r.v))=true) ↔ okR r.v=true:=by
 obtain ⟨n,t,v,k,o,b,a,x,l,aL,cL⟩:=r
 simp only at hk
 subst hk
 exact okV_back n t v o b.v a.v x l
theorem okV_end (n t v o:Int) (b a:SlotV) (x:Int) (l:List LiveV):((inB n 1 1000000 && (linkB n t v && sameR ⟨n,t,v,5,0,noS,noS,0,[]⟩ ⟨n,t,v,5,o,b,a,x,l⟩))=true) ↔ okR ⟨n,t,v,5,o,b,a,x,l⟩=true:=by
 have hb:isNo b=true→slotB b=true:=isNo_slot
 have ha:isNo a=true→slotB a=true:=isNo_slot
 simp only [sameR,isNo_same,sameLs_nil,okR,zeroB,linkB,Bool.and_eq_true,beq_self_eq_true,beq_iff_eq,decide_eq_true_eq,Bool.true_or,Bool.false_or]
 generalize isNo b=ib at*
 generalize isNo a=ia at*
 generalize slotB b=sb at*
 generalize slotB a=sa at*
 by_cases hl:l=[]
 all_goals cases ib<;>cases ia<;>cases sb<;>cases sa<;>simp [inB,hl] at hb ha ⊢ <;>omega
theorem okR_end (r:RecA) (hk:r.kind=5):((inB r.lsn 1 1000000 && (linkB r.lsn r.tx r.prev && sameR (RecA.v (recA r.lsn r.tx r.prev 5)) r.v))=true) ↔ okR r.v=true:=by
 obtain ⟨n,t,v,k,o,b,a,x,l,aL,cL⟩:=r
 simp only at hk
 subst hk
 exact okV_end n t v o b.v a.v x l
theorem okV_check (n t v o:Int) (b a:SlotV) (x:Int) (l:List LiveV):((inB n 1 1000000 && (livesB n l && sameR ⟨n,0,0,6,0,noS,noS,0,l⟩ ⟨n,t,v,6,o,b,a,x,l⟩))=true) ↔ okR ⟨n,t,v,6,o,b,a,x,l⟩=true:=by
 have hb:isNo b=true→slotB b=true:=isNo_slot
 have ha:isNo a=true→slotB a=true:=isNo_slot
 simp only [sameR,isNo_same,sameLs_refl,okR,zeroB,Bool.and_eq_true,beq_self_eq_true,beq_iff_eq,Bool.true_or,Bool.false_or]
 generalize isNo b=ib at*
 generalize isNo a=ia at*
 generalize slotB b=sb at*
 generalize slotB a=sa at*
 generalize livesB n l=L at*
 all_goals cases L<;>cases ib<;>cases ia<;>cases sb<;>cases sa<;>simp [inB] at hb ha ⊢ <;>omega
theorem okR_check (r:RecA) (hk:r.kind=6):((inB r.lsn 1 1000000 && (livesB r.lsn r.txs && sameR (RecA.v (⟨r.lsn,0,0,6,0,zeroS,zeroS,0,r.txs,r.aL,r.cL⟩)) r.v))=true) ↔ okR r.v=true:=by
 obtain ⟨n,t,v,k,o,b,a,x,l,aL,cL⟩:=r
 simp only at hk
 subst hk
 exact okV_check n t v o b.v a.v x l
theorem okR_eq (r:RecA):(inB r.lsn 1 1000000 && (deedB r.lsn r.v && sameR (cutA r.lsn r).v r.v))=okR r.v:=by
 rw [Bool.eq_iff_iff]
 cases k1:(r.kind == 1) with
 | true=>
  have e2:deedB r.lsn r.v=(linkB r.lsn r.tx r.prev && (inB r.oid 1 31 && (slotB r.bf.v && slotB r.af.v))):=by simp [deedB,RecA.v,k1]
  have e3:cutA r.lsn r=⟨r.lsn,r.tx,r.prev,1,r.oid,r.bf,r.af,0,[],none,0⟩:=by simp [cutA,k1]
  rw [e2,e3]
  have hk:r.kind=1:=by simpa using k1
  exact okR_set _ (by simpa using k1)
 | false=>
  cases k2:(r.kind == 2) with
  | true=>
   have e2:deedB r.lsn r.v=linkB r.lsn r.tx r.prev:=by simp [deedB,RecA.v,k1,k2]
   have e3:cutA r.lsn r=recA r.lsn r.tx r.prev 2:=by simp [cutA,k1,k2]
   rw [e2,e3]
   have hk:r.kind=2:=by simpa using k2
   exact okR_commit _ (by simpa using k2)
  | false=>
   cases k3:(r.kind == 3) with
   | true=>
    have e2:deedB r.lsn r.v=linkB r.lsn r.tx r.prev:=by simp [deedB,RecA.v,k1,k2,k3]
    have e3:cutA r.lsn r=recA r.lsn r.tx r.prev 3:=by simp [cutA,k1,k2,k3]
    rw [e2,e3]
    have hk:r.kind=3:=by simpa using k3
    exact okR_abort _ (by simpa using k3)
   | false=>
    cases k4:(r.kind == 4) with
    | true=>
     have e2:deedB r.lsn r.v=(linkB r.lsn r.tx r.prev && (inB r.oid 1 31 && (slotB r.af.v && inB r.next 0 (r.lsn-1)))):=by simp [deedB,RecA.v,k1,k2,k3,k4]
     have e3:cutA r.lsn r=⟨r.lsn,r.tx,r.prev,4,r.oid,zeroS,r.af,r.next,[],none,0⟩:=by simp [cutA,k1,k2,k3,k4]
     rw [e2,e3]
     have hk:r.kind=4:=by simpa using k4
     exact okR_back _ (by simpa using k4)
    | false=>
     cases k5:(r.kind == 5) with
     | true=>
      have e2:deedB r.lsn r.v=linkB r.lsn r.tx r.prev:=by simp [deedB,RecA.v,k1,k2,k3,k4,k5]
      have e3:cutA r.lsn r=recA r.lsn r.tx r.prev 5:=by simp [cutA,k1,k2,k3,k4,k5]
      rw [e2,e3]
      have hk:r.kind=5:=by simpa using k5
      exact okR_end _ (by simpa using k5)
     | false=>
      cases k6:(r.kind == 6) with
      | true=>
       have e2:deedB r.lsn r.v=livesB r.lsn r.txs:=by simp [deedB,RecA.v,k1,k2,k3,k4,k5,k6]
       have e3:cutA r.lsn r=⟨r.lsn,0,0,6,0,zeroS,zeroS,0,r.txs,r.aL,r.cL⟩:=by simp [cutA,k1,k2,k3,k4,k5,k6]
       rw [e2,e3]
       have hk:r.kind=6:=by simpa using k6
       exact okR_check _ (by simpa using k6)
      | false=>
       have e2:deedB r.lsn r.v=false:=by simp [deedB,RecA.v,k1,k2,k3,k4,k5,k6]
       have e3:okR r.v=false:=by simp [okR,RecA.v,k1,k2,k3,k4,k5,k6]
       rw [e2,e3]
       simp
theorem implRecOk_any (r:RecA) (w:World) (hg:ErrT w) (hr:r.reads w) (hl:r.short 1099511627776):
  Calls Tryz.prog 102 #[.agg r.cells.toArray] w fun e w'=>e=.returned (.bool (okR r.v))∧Below w.heap.size w w':=by
 obtain ⟨W,hW,b0,hbW,hsW⟩:=boxes1 w r.cells 100
 have HZ:Hid (okR r.v=_):=(okR_eq r).symm
 have HX:Hid (∀ u,Below W.heap.size W u→Box u w.heap.size r.cells 100):=fun u hu=>b0.below hu b0.lt
 have C1:=deedOf_any r W
 have HD:Hid (∀ u,Below w.heap.size w u→Calls _ _ _ _ _):=fun u hu=>deedOk_any r.lsn r u (hg.keep hu) (hr.below hu) hl
 have HM:Hid (∀ u,Below w.heap.size w u→Calls _ _ _ _ _):=fun u hu=>sameRec_any (cutA r.lsn r) r u (cutA_reads r.lsn (hr.below hu)) (hr.below hu) (cutA_short r.lsn hl) hl
 generalize okR r.v=R at*
 generalize deedB r.lsn r.v=G at*
 generalize sameR (cutA r.lsn r).v r.v=M at*
 have HN:Hid (∀ u,Calls _ _ _ _ _):=fun u=>recOf_any r.lsn r u
 generalize deedV r=D at*
 generalize cutA r.lsn r=cc at*
 simp only [RecA.cells] at*
 have HC:Hid (∀ w',Box w' w.heap.size [.int .i64 r.lsn,.int .i64 r.tx,.int .i64 r.prev,.int .i64 r.kind,.int .i64 r.oid,.bool r.bf.v.has,.int .i64 r.bf.v.o.kind,.slice r.bf.aI r.bf.v.o.ints.length r.bf.cI,.slice r.bf.aR r.bf.v.o.refs.length r.bf.cR,.bool r.af.v.has,.int .i64 r.af.v.o.kind,.slice r.af.aI r.af.v.o.ints.length r.af.cI,.slice r.af.aR r.af.v.o.refs.length r.af.cR,.int .i64 r.next,.slice r.aL r.txs.length r.cL] 100→w'.cell? ⟨w.heap.size,0,none⟩=some (.int .i64 r.lsn)∧w'.cell? ⟨w.heap.size,1,none⟩=some (.int .i64 r.tx)∧w'.cell? ⟨w.heap.size,2,none⟩=some (.int .i64 r.prev)∧w'.cell? ⟨w.heap.size,3,none⟩=some (.int .i64 r.kind)∧w'.cell? ⟨w.heap.size,4,none⟩=some (.int .i64 r.oid)∧w'.cell? ⟨w.heap.size,5,none⟩=some (.bool r.bf.v.has)∧w'.cell? ⟨w.heap.size,6,none⟩=some (.int .i64 r.bf.v.o.kind)∧w'.cell? ⟨w.heap.size,7,none⟩=some (.slice r.bf.aI r.bf.v.o.ints.length r.bf.cI)∧w'.cell? ⟨w.heap.size,8,none⟩=some (.slice r.bf.aR r.bf.v.o.refs.length r.bf.cR)∧w'.cell? ⟨w.heap.size,9,none⟩=some (.bool r.af.v.has)∧w'.cell? ⟨w.heap.size,10,none⟩=some (.int .i64 r.af.v.o.kind)∧w'.cell? ⟨w.heap.size,11,none⟩=some (.slice r.af.aI r.af.v.o.ints.length r.af.cI)∧w'.cell? ⟨w.heap.size,12,none⟩=some (.slice r.af.aR r.af.v.o.refs.length r.af.cR)∧w'.cell? ⟨w.heap.size,13,none⟩=some (.int .i64 r.next)∧w'.cell? ⟨w.heap.size,14,none⟩=some (.slice r.aL r.txs.length r.cL)):=fun w' b=>fifteen b
 obtain ⟨x0,x1,x2,x3,x4,x5,x6,x7,x8,x9,x10,x11,x12,x13,x14⟩:=HC.out W b0
 clear hsW b0 hg hr hl
 go_enter Tryz.func102,Tryz.ntmps102
 go_wp2_with fail
 rw [hW.out]
 clear hW
 refine C1.mono ?_
 clear C1 x0 x1 x2 x3 x4 x5 x6 x7 x8 x9 x10 x11 x12 x13 x14
 rintro e w1 ⟨rfl,hb1⟩
 have B1:Below w.heap.size w w1:=hbW.trans (hb1.mono hbW.size)
 have hh:=HC.out w1 (HX.out _ hb1)
 by_cases h1:1≤r.lsn
 case neg=>
  have HR:Hid (R=false):=by rw [Hid,HZ.out];simp [inB];omega
  have hd:decide (1≤r.lsn)=false:=by simp;omega
  clear HZ HD HM HN h1
  go_wp2_with fail
  obtain ⟨x0,x1,x2,x3,x4,x5,x6,x7,x8,x9,x10,x11,x12,x13,x14⟩:=hh
  go_quiet (fail)
  go_wp2
  go_ret
  exact ⟨ret_bool HR.out.symm,below_drewN B1 _⟩
 case pos=>
 by_cases h2:r.lsn≤1000000
 case neg=>
  have HR:Hid (R=false):=by rw [Hid,HZ.out];simp [inB];omega
  have hd:decide (1≤r.lsn)=true:=by simp;omega
  have hd2:decide (r.lsn≤1000000)=false:=by simp;omega
  clear HZ HD HM HN h1 h2
  go_wp2_with fail
  obtain ⟨x0,x1,x2,x3,x4,x5,x6,x7,x8,x9,x10,x11,x12,x13,x14⟩:=hh
  go_quiet (fail)
  go_wp2
  go_ret
  exact ⟨ret_bool HR.out.symm,below_drewN B1 _⟩
 case pos=>
 have h12:inB r.lsn 1 1000000=true:=by simp [inB];omega
 cases G with
 | false=>
  have HR:Hid (R=false):=by rw [Hid,HZ.out];simp
  clear HZ HM HN h12
  go_wp2_with fail
  refine wp_region_held_drew (S:=fun w'=>w'.cell? ⟨w.heap.size,0,none⟩=some (.int .i64 r.lsn)∧w'.cell? ⟨w.heap.size,1,none⟩=some (.int .i64 r.tx)∧w'.cell? ⟨w.heap.size,2,none⟩=some (.int .i64 r.prev)∧w'.cell? ⟨w.heap.size,3,none⟩=some (.int .i64 r.kind)∧w'.cell? ⟨w.heap.size,4,none⟩=some (.int .i64 r.oid)∧w'.cell? ⟨w.heap.size,5,none⟩=some (.bool r.bf.v.has)∧w'.cell? ⟨w.heap.size,6,none⟩=some (.int .i64 r.bf.v.o.kind)∧w'.cell? ⟨w.heap.size,7,none⟩=some (.slice r.bf.aI r.bf.v.o.ints.length r.bf.cI)∧w'.cell? ⟨w.heap.size,8,none⟩=some (.slice r.bf.aR r.bf.v.o.refs.length r.bf.cR)∧w'.cell? ⟨w.heap.size,9,none⟩=some (.bool r.af.v.has)∧w'.cell? ⟨w.heap.size,10,none⟩=some (.int .i64 r.af.v.o.kind)∧w'.cell? ⟨w.heap.size,11,none⟩=some (.slice r.af.aI r.af.v.o.ints.length r.af.cI)∧w'.cell? ⟨w.heap.size,12,none⟩=some (.slice r.af.aR r.af.v.o.refs.length r.af.cR)∧w'.cell? ⟨w.heap.size,13,none⟩=some (.int .i64 r.next)∧w'.cell? ⟨w.heap.size,14,none⟩=some (.slice r.aL r.txs.length r.cL)) (by kernel_rfl) (HC.out _ (HX.out _ hb1.drew)) (fun hHeld=>?_)
  refine tq 0 (v:=.pointer (some ⟨w.heap.size,0,none⟩)) rfl hHeld ?_
  try simp only [zz]
  refine tq 1 (v:=.int .i64 r.lsn) rfl hHeld ?_
  try simp only [zz]
  refine tq 2 (v:=.bool true) rfl hHeld ?_
  try simp only [zz]
  refine tq 3 (v:=.bool true) rfl hHeld ?_
  try simp only [zz]
  refine tq 4 (v:=.pointer (some ⟨w.heap.size,0,none⟩)) rfl hHeld ?_
  try simp only [zz]
  refine tq 5 (v:=.int .i64 r.lsn) rfl hHeld ?_
  try simp only [zz]
  refine tq 6 (v:=.bool true) rfl hHeld ?_
  try simp only [zz]
  refine tq 7 (v:=.bool true) rfl hHeld ?_
  try simp only [zz]
  refine tq 8 (v:=.bool true) rfl hHeld ?_
  try simp only [zz]
  refine tq 9 (v:=.pointer (some ⟨w.heap.size,0,none⟩)) rfl hHeld ?_
  try simp only [zz]
  refine tq 10 (v:=.int .i64 r.lsn) rfl hHeld ?_
  try simp only [zz]
  refine tq 11 (v:=D) rfl hHeld ?_
  try simp only [zz]
  refine wpAnyH_ready (rs:=[12]) (by kernel_rfl) (by simp) ?_
  refine AllReadyH.cons rfl (fun K hK=>?_) AllReadyH.nil
  go_simp
  refine (HD.out _ B1.drew).mono ?_
  rintro e u2 ⟨rfl,hbu2⟩
  have hBu2:Below W.heap.size W u2:=(hb1.drew).trans (hbu2.mono (hb1.drew).size)
  refine hK.out _ _ (HC.out _ (HX.out _ hBu2)) (fun hHeld=>?_)
  clear hK K
  try simp only [zz]
  refine tq 13 (v:=.bool false) rfl hHeld ?_
  try simp only [zz]
  refine tq 14 (v:=.bool false) rfl hHeld ?_
  try simp only [zz]
  refine tk 15 (v:=undef) rfl (Or.inr ⟨by rfl,rfl⟩) hHeld ?_
  try simp only [zz]
  refine tk 16 (v:=undef) rfl (Or.inr ⟨by rfl,rfl⟩) hHeld ?_
  try simp only [zz]
  refine tk 17 (v:=undef) rfl (Or.inr ⟨by rfl,rfl⟩) hHeld ?_
  try simp only [zz]
  refine tk 18 (v:=undef) rfl (Or.inr ⟨by rfl,rfl⟩) hHeld ?_
  try simp only [zz]
  refine tk 19 (v:=undef) rfl (Or.inr ⟨by rfl,rfl⟩) hHeld ?_
  try simp only [zz]
  refine tk 20 (v:=undef) rfl (Or.inr ⟨by rfl,rfl⟩) hHeld ?_
  try simp only [zz]
  refine tq 21 (v:=.bool false) rfl hHeld ?_
  try simp only [zz]
  refine tq 22 (v:=.bool false) rfl hHeld ?_
  try simp only [zz]
  refine wpAnyH_done (by kernel_rfl) ?_ _
  go_wp2
  go_ret
  exact ⟨ret_bool HR.out.symm,hbW.trans (hBu2.mono hbW.size)⟩
 | true=>
  have HR:Hid (R=M):=by rw [Hid,HZ.out,h12];simp
  clear HZ h12
  go_wp2_with fail
  refine wp_region_held_drew (S:=fun w'=>w'.cell? ⟨w.heap.size,0,none⟩=some (.int .i64 r.lsn)∧w'.cell? ⟨w.heap.size,1,none⟩=some (.int .i64 r.tx)∧w'.cell? ⟨w.heap.size,2,none⟩=some (.int .i64 r.prev)∧w'.cell? ⟨w.heap.size,3,none⟩=some (.int .i64 r.kind)∧w'.cell? ⟨w.heap.size,4,none⟩=some (.int .i64 r.oid)∧w'.cell? ⟨w.heap.size,5,none⟩=some (.bool r.bf.v.has)∧w'.cell? ⟨w.heap.size,6,none⟩=some (.int .i64 r.bf.v.o.kind)∧w'.cell? ⟨w.heap.size,7,none⟩=some (.slice r.bf.aI r.bf.v.o.ints.length r.bf.cI)∧w'.cell? ⟨w.heap.size,8,none⟩=some (.slice r.bf.aR r.bf.v.o.refs.length r.bf.cR)∧w'.cell? ⟨w.heap.size,9,none⟩=some (.bool r.af.v.has)∧w'.cell? ⟨w.heap.size,10,none⟩=some (.int .i64 r.af.v.o.kind)∧w'.cell? ⟨w.heap.size,11,none⟩=some (.slice r.af.aI r.af.v.o.ints.length r.af.cI)∧w'.cell? ⟨w.heap.size,12,none⟩=some (.slice r.af.aR r.af.v.o.refs.length r.af.cR)∧w'.cell? ⟨w.heap.size,13,none⟩=some (.int .i64 r.next)∧w'.cell? ⟨w.heap.size,14,none⟩=some (.slice r.aL r.txs.length r.cL)) (by kernel_rfl) (HC.out _ (HX.out _ hb1.drew)) (fun hHeld=>?_)
  refine tq 0 (v:=.pointer (some ⟨w.heap.size,0,none⟩)) rfl hHeld ?_
  try simp only [zz]
  refine tq 1 (v:=.int .i64 r.lsn) rfl hHeld ?_
  try simp only [zz]
  refine tq 2 (v:=.bool true) rfl hHeld ?_
  try simp only [zz]
  refine tq 3 (v:=.bool true) rfl hHeld ?_
  try simp only [zz]
  refine tq 4 (v:=.pointer (some ⟨w.heap.size,0,none⟩)) rfl hHeld ?_
  try simp only [zz]
  refine tq 5 (v:=.int .i64 r.lsn) rfl hHeld ?_
  try simp only [zz]
  refine tq 6 (v:=.bool true) rfl hHeld ?_
  try simp only [zz]
  refine tq 7 (v:=.bool true) rfl hHeld ?_
  try simp only [zz]
  refine tq 8 (v:=.bool true) rfl hHeld ?_
  try simp only [zz]
  refine tq 9 (v:=.pointer (some ⟨w.heap.size,0,none⟩)) rfl hHeld ?_
  try simp only [zz]
  refine tq 10 (v:=.int .i64 r.lsn) rfl hHeld ?_
  try simp only [zz]
  refine tq 11 (v:=D) rfl hHeld ?_
  try simp only [zz]
  refine wpAnyH_ready (rs:=[12]) (by kernel_rfl) (by simp) ?_
  refine AllReadyH.cons rfl (fun K hK=>?_) AllReadyH.nil
  go_simp
  refine (HD.out _ B1.drew).mono ?_
  rintro e u2 ⟨rfl,hbu2⟩
  have hBu2:Below W.heap.size W u2:=(hb1.drew).trans (hbu2.mono (hb1.drew).size)
  refine hK.out _ _ (HC.out _ (HX.out _ hBu2)) (fun hHeld=>?_)
  clear hK K
  try simp only [zz]
  refine tq 13 (v:=.bool true) rfl hHeld ?_
  try simp only [zz]
  refine tq 14 (v:=.bool true) rfl hHeld ?_
  try simp only [zz]
  refine tq 15 (v:=.pointer (some ⟨w.heap.size,0,none⟩)) rfl hHeld ?_
  try simp only [zz]
  refine tq 16 (v:=.int .i64 r.lsn) rfl hHeld ?_
  try simp only [zz]
  refine tq 17 (v:=D) rfl hHeld ?_
  try simp only [zz]
  refine tq 19 (v:=.agg #[.int .i64 r.lsn,.int .i64 r.tx,.int .i64 r.prev,.int .i64 r.kind,.int .i64 r.oid,.bool r.bf.v.has,.int .i64 r.bf.v.o.kind,.slice r.bf.aI r.bf.v.o.ints.length r.bf.cI,.slice r.bf.aR r.bf.v.o.refs.length r.bf.cR,.bool r.af.v.has,.int .i64 r.af.v.o.kind,.slice r.af.aI r.af.v.o.ints.length r.af.cI,.slice r.af.aR r.af.v.o.refs.length r.af.cR,.int .i64 r.next,.slice r.aL r.txs.length r.cL]) rfl hHeld ?_
  try simp only [zz]
  refine wpAnyH_ready (rs:=[18]) (by kernel_rfl) (by simp) ?_
  refine AllReadyH.cons rfl (fun K hK=>?_) AllReadyH.nil
  go_simp
  refine (HN.out _).mono ?_
  rintro e u3 ⟨rfl,hbu3⟩
  have hBu3:Below W.heap.size W u3:=(hBu2).trans (hbu3.mono (hBu2).size)
  refine hK.out _ _ (HC.out _ (HX.out _ hBu3)) (fun hHeld=>?_)
  clear hK K
  try simp only [zz]
  refine wpAnyH_ready (rs:=[20]) (by kernel_rfl) (by simp) ?_
  refine AllReadyH.cons rfl (fun K hK=>?_) AllReadyH.nil
  go_simp
  refine (HM.out _ (hbW.trans (hBu3.mono hbW.size))).mono ?_
  rintro e u4 ⟨rfl,hbu4⟩
  have hBu4:Below W.heap.size W u4:=(hBu3).trans (hbu4.mono (hBu3).size)
  refine hK.out _ _ (HC.out _ (HX.out _ hBu4)) (fun hHeld=>?_)
  clear hK K
  try simp only [zz]
  refine tq 21 (v:=.bool M) rfl hHeld ?_
  try simp only [zz]
  refine tq 22 (v:=.bool M) rfl hHeld ?_
  try simp only [zz]
  refine wpAnyH_done (by kernel_rfl) ?_ _
  go_wp2
  go_ret
  exact ⟨ret_bool HR.out.symm,hbW.trans (hBu4.mono hbW.size)⟩
end Go.Proofs.YtcoeamamaifoeaaGreatDoor
namespace Go.Proofs.YtcoeamamaifoeaaGreatDoor
open Go.RowKit
theorem lsnAt_any (p:Int) (w:World) (h:0≤p∧p≤1099511627776):
  Calls Tryz.prog 101 #[.int .i64 p] w fun e w'=>e=.returned (.int .i64 (p+1))∧w'=w:=by
 go_enter Tryz.func101,Tryz.ntmps101
 go_wp2
 go_ret
 exact ⟨rfl,rfl⟩
theorem implLogOk_any (l:LogA) (w:World) (hg:ErrT w) (hr:l.reads w) (hl:l.short 1099511627776):
  Calls Tryz.prog 65 #[.agg l.cells.toArray] w fun e w'=>e=.returned (.bool (okLog l.v))∧Below w.heap.size w w':=by
 have HLEN:Hid (¬ l.recs.length≤4000→okLog l.v=false):=fun h=>okLog_len (by rw [l.v_len];exact h)
 have HSURE:Hid (¬ (0≤l.sure∧l.sure≤l.recs.length)→okLog l.v=false):=fun h=>okLog_sure (by rw [l.v_len];unfold inB;exact decide_eq_false h)
 have HNO:Hid (∀ k,k<l.recs.length→(((l.recs.getD k zeroR).lsn == (k+1:Int)) && okR (l.recs.getD k zeroR).v)=false→okLog l.v=false):=fun k hk h=>okLog_no k (by rw [l.v_len];exact hk) (by rw [okAt_v];exact h)
 have HALL:Hid (l.recs.length≤4000→0≤l.sure∧l.sure≤l.recs.length→(∀ k,k<l.recs.length→(((l.recs.getD k zeroR).lsn == (k+1:Int)) && okR (l.recs.getD k zeroR).v)=true)→okLog l.v=true):=fun h0 h1 h=>okLog_all (by rw [l.v_len];exact h0) (by rw [l.v_len];unfold inB;exact decide_eq_true h1) (fun k hk=>by rw [okAt_v];exact h k (by rw [l.v_len] at hk;exact hk))
 generalize okLog l.v=R at*
 have HS:Hid (∀ k,k<l.recs.length→(l.recs.getD k zeroR).short 1099511627776):=fun k hk=>hl.at k hk
 have hlen:=hl.len
 obtain ⟨rs,s,a,c⟩:=l
 simp only [LogA.reads,LogA.cells] at*
 obtain ⟨W,hW,b0,hbW,hsW⟩:=boxes1 w [.slice a rs.length c,.int .i64 s] 54
 have c0:=b0.cell 0 _ rfl
 have c1:=b0.cell 1 _ rfl
 clear hl hsW
 have HC:Hid (∀ k,k<rs.length→∃ b off,a=some ⟨b,off,none⟩∧W.rangeAt b (off+k*15) (rs.getD k zeroR).cells∧(rs.getD k zeroR).reads W):=fun k hk=>by
  obtain ⟨b,off,ha,hc⟩:=(ReadsRs.below hr hbW) (by intro e;rw [e] at hk;simp at hk)
  exact ⟨b,off,ha,hc k hk⟩
 have HI:Hid ((Tryz.prog.info? 100).map (·.size)=some 15):=by rw [Hid];kernel_rfl
 have HG:Hid (∀ u,Below W.heap.size W u→ErrT u):=fun u hu=>hg.keep (hbW.trans (hu.mono hbW.size))
 clear hr hg
 by_cases h4:rs.length≤4000
 case neg=>
  have HR:Hid (R=false):=HLEN.out h4
  clear HLEN HSURE HNO HALL
  go_enter Tryz.func65,Tryz.ntmps65
  go_wp2_with fail
  rw [hW.out]
  go_ret
  exact ⟨ret_bool HR.out.symm,hbW⟩
 case pos=>
  by_cases h5:0≤s
  case neg=>
   have HR:Hid (R=false):=HSURE.out (fun h=>h5 h.1)
   clear HLEN HSURE HNO HALL
   go_enter Tryz.func65,Tryz.ntmps65
   go_wp2_with fail
   rw [hW.out]
   go_ret
   exact ⟨ret_bool HR.out.symm,hbW⟩
  by_cases h6:s≤rs.length
  case neg=>
   have HR:Hid (R=false):=HSURE.out (fun h=>h6 h.2)
   clear HLEN HSURE HNO HALL
   go_enter Tryz.func65,Tryz.ntmps65
   go_wp2_with fail
   rw [hW.out]
   go_ret
   exact ⟨ret_bool HR.out.symm,hbW⟩
  have HRES:Hid ((∀ k,k<rs.length→(((rs.getD k zeroR).lsn == (k+1:Int)) && okR (rs.getD k zeroR).v)=true)→R=true):=HALL.out h4 ⟨h5,h6⟩
  clear HALL HLEN HSURE
  go_enter Tryz.func65,Tryz.ntmps65
  go_wp2_with fail
  rw [hW.out]
  clear hW
  go_loopw [25] (fun i wr=>∃ k:Nat,k≤rs.length∧i=.int .i64 k∧Hid (∀ j,j<k→(((rs.getD j zeroR).lsn == (j+1:Int)) && okR (rs.getD j zeroR).v)=true)∧Below W.heap.size W wr) (fun i _=>rs.length-(intOf i).toNat)
  case atStart=>exact ⟨0,Nat.zero_le _,rfl,fun j hj=>by omega,Below.refl _ _⟩
  case round=>
   obtain ⟨k,hk,rfl,hall,hbl⟩:=hrel
   have hbm:Below w.heap.size w wr:=hbW.trans (hbl.mono hbW.size)
   clear c0 c1
   by_cases hlt:k<rs.length
   ·obtain ⟨b,off,rfl,hcell,hrd⟩:=HC.out k hlt
    have HR:Hid (wr.rangeAt b (off+k*15) (rs.getD k zeroR).cells):=range_below hcell hbl
    have hrd':=hrd.below hbl
    have hsh:=HS.out k hlt
    have HN:Hid ((((rs.getD k zeroR).lsn == (k+1:Int)) && okR (rs.getD k zeroR).v)=false→R=false):=HNO.out k hlt
    have HY:Hid ((((rs.getD k zeroR).lsn == (k+1:Int)) && okR (rs.getD k zeroR).v)=true→∀ j,j<k+1→(((rs.getD j zeroR).lsn == (j+1:Int)) && okR (rs.getD j zeroR).v)=true):=fun h j hj=>by
     by_cases e:j=k
     ·rw [e];exact h
     ·exact hall.out j (by omega)
    clear hcell HC HNO hall HS hrd HRES
    generalize rs.getD k zeroR=y at*
    obtain ⟨W1,hW1,b1,hb1,hs1⟩:=boxes1 wr [.int .i64 0,.int .i64 0,.int .i64 0,.int .i64 0,.int .i64 0,.bool false,.int .i64 0,.slice none 0 0,.slice none 0 0,.bool false,.int .i64 0,.slice none 0 0,.slice none 0 0,.int .i64 0,.slice none 0 0] 100
    obtain ⟨W2,hW2,hw2,hs2,HT2,_,b2⟩:=rec_out y _ rfl b1
    have B2:Below wr.heap.size wr W2:=hb1.trans (hw2.below (Nat.le_refl _) (by omega))
    have HRG:Hid (∀ u,Below W2.heap.size W2 u→u.rangeAt wr.heap.size 0 y.cells):=fun u hu=>Box.range [] y.cells [] (by simpa using b2.below hu b2.lt)
    have C2:Below W.heap.size W W2:=hbl.trans (B2.mono hbl.size)
    have hrd2:=hrd'.below B2
    have hO:=rec_one y
    have D2:Below w.heap.size w W2:=hbm.trans (B2.mono hbm.size)
    clear b1 b2 hw2 hs2 hs1 hb1 B2 hrd' hbl hbm
    go_wp2_with (first | (guard_target=wpList _ _ _ (Oper.mk (some 29) _ _ _ _ _::_) _ _;refine wpList_load_mid rfl 100 (.tmp 28) rfl b (off+k*15) rfl y.cells _ HR.out Tryz.underlying100 rfl HI.out ?_) | (guard_target=wpList _ _ _ (Oper.mk none (Op.store _ (Operand.tmp 4) _) _ _ _ _::_) _ _;refine wpList_store_mid rfl 100 (.tmp 4) (.tmp 29) rfl wr.heap.size 0 y.cells.toArray rfl rfl (by rw [hW1.out];exact HT2.out) HI.out hO ?_) | fail)
    rw [hW1.out,hW2.out]
    clear hW1 hW2 HT2 HR
    refine wp_region_held_drew (S:=fun w'=>w'.rangeAt wr.heap.size 0 y.cells) (by kernel_rfl) ?_ (fun hHeld=>?_)
    ·exact HRG.out _ (Below.refl _ _).drew
    refine tq 0 (v:=.pointer (some ⟨wr.heap.size,0,none⟩)) rfl hHeld ?_
    try simp only [zz]
    refine tk 1 (v:=.int .i64 y.lsn) rfl (Or.inl ⟨by rfl,?_⟩) hHeld ?_
    ·intro w' hSw
     have hx:w'.cell? ⟨wr.heap.size,0,none⟩=some (.int .i64 y.lsn):=hSw 0 _ rfl
     go_simp<;>rfl
    try simp only [zz]
    refine tq 2 (v:=.int .i64 k) rfl hHeld ?_
    try simp only [zz]
    refine wpAnyH_ready (rs:=[3]) (by kernel_rfl) (by simp) ?_
    refine AllReadyH.cons rfl (fun K hK=>?_) AllReadyH.nil
    go_simp
    refine (lsnAt_any k _ (by omega)).mono ?_
    rintro e w3 ⟨rfl,rfl⟩
    refine hK.out _ _ (HRG.out _ (Below.refl _ _).drew) (fun hHeld=>?_)
    clear hK K
    try simp only [zz]
    refine tq 4 (v:=.bool (y.lsn != (k:Int)+1)) rfl hHeld ?_
    try simp only [zz]
    cases h6:(y.lsn == (k+1:Int)) with
    | false=>
     have HR2:Hid (R=false):=HN.out (by rw [h6];rfl)
     have h6b:(y.lsn != (k:Int)+1)=true:=by simp only [bne,h6,Bool.not_false]
     rw [h6b]
     clear h6 HN HY h6b
     refine tq 5 (v:=.bool true) rfl hHeld ?_
     try simp only [zz]
     refine tk 6 (v:=undef) rfl (Or.inr ⟨by rfl,rfl⟩) hHeld ?_
     try simp only [zz]
     refine tk 7 (v:=undef) rfl (Or.inr ⟨by rfl,rfl⟩) hHeld ?_
     try simp only [zz]
     refine tk 8 (v:=undef) rfl (Or.inr ⟨by rfl,rfl⟩) hHeld ?_
     try simp only [zz]
     refine tq 9 (v:=.bool true) rfl hHeld ?_
     try simp only [zz]
     refine wpAnyH_done (by kernel_rfl) ?_ _
     go_wp2_with fail
     go_ret
     exact ⟨ret_bool HR2.out.symm,D2.drew⟩
    | true=>
     rw [h6,Bool.true_and] at HN HY
     have h6b:(y.lsn != (k:Int)+1)=false:=by simp only [bne,h6,Bool.not_true]
     rw [h6b]
     clear h6 h6b
     refine tq 5 (v:=.bool false) rfl hHeld ?_
     try simp only [zz]
     refine tk 6 rfl (yieldsIf_load_mid (by rfl) _ _ rfl _ _ rfl y.cells _ (fun _ h=>h) Tryz.underlying100 rfl HI.out) hHeld ?_
     try simp only [zz]
     refine wpAnyH_ready (rs:=[7]) (by kernel_rfl) (by simp) ?_
     refine AllReadyH.cons rfl (fun K hK=>?_) AllReadyH.nil
     go_simp
     refine (implRecOk_any y _ (HG.out _ C2.drew) (hrd2.below (Below.refl _ _).drew) hsh).mono ?_
     rintro e w4 ⟨rfl,hb4⟩
     have hb4':Below W2.heap.size W2 w4:=(Below.refl _ _).drew.trans hb4
     have D4:Below w.heap.size w w4:=D2.trans (hb4'.mono D2.size)
     have C4:Below W.heap.size W w4:=C2.trans (hb4'.mono C2.size)
     refine hK.out _ _ (HRG.out _ hb4') (fun hHeld=>?_)
     clear hK K
     try simp only [zz]
     cases h7:okR y.v with
     | false=>
      have HR2:Hid (R=false):=HN.out h7
      clear HN HY
      refine tq 8 (v:=.bool true) rfl hHeld ?_
      try simp only [zz]
      refine tq 9 (v:=.bool true) rfl hHeld ?_
      try simp only [zz]
      refine wpAnyH_done (by kernel_rfl) ?_ _
      go_wp2_with fail
      go_ret
      exact ⟨ret_bool HR2.out.symm,D4⟩
     | true=>
      have HY2:=HY.out h7
      clear HN HY
      refine tq 8 (v:=.bool false) rfl hHeld ?_
      try simp only [zz]
      refine tq 9 (v:=.bool false) rfl hHeld ?_
      try simp only [zz]
      refine wpAnyH_done (by kernel_rfl) ?_ _
      go_wp2_with fail
      go_roundw
      case rel=>exact ⟨k+1,by omega,by go_num,HY2,C4⟩
      case measure=>simp [intOf];omega
   ·have HR:Hid (R=true):=HRES.out (fun j hj=>hall.out j (by omega))
    clear HNO HRES
    go_wp2
    go_ret
    exact ⟨ret_bool HR.out.symm,hbm⟩
end Go.Proofs.YtcoeamamaifoeaaGreatDoor