/- Several texts in one, in their order. -/
import Derived.Test.YtcoeamamaifoeaaGreatDoorPCrashx3
import Derived.Test.YtcoeamamaifoeaaGreatDoorPCrashx2
import Derived.Test.YtcoeamamaifoeaaGreatDoorPCrashx4
import Derived.Deep.RegionHeld3
import Derived.Test.YtcoeamamaifoeaaGreatDoorPCrashx1
set_option maxHeartbeats 8000000
set_option maxRecDepth 100000
namespace Go.Proofs.YtcoeamamaifoeaaGreatDoor
open Go.RowKit
theorem slotB_of (o:ObjV) (a b c:Bool) (h1:decide (o.kind=0)=a) (h2:decide (o.ints.length=0)=b) (h3:decide (o.refs.length=0)=c):slotB ⟨false,o⟩=(a && (b && c)):=by
 rw [← h1,← h2,← h3];rfl
theorem l3Slot_any (s:SlotA) (w:World) (hr:s.reads w) (hl:Fit [s]):
  Calls Tryz.prog 88 #[.agg s.cells.toArray] w fun e w'=>e=.returned (.bool (slotB s.v))∧Below w.heap.size w w':=by
 obtain ⟨h1,h2⟩:=hl s (List.mem_singleton.2 rfl)
 obtain ⟨W,hW,b0,hbW,hsW⟩:=boxes1 w s.cells 44
 have hr':s.reads W:=ReadsO.below hr hbW
 obtain ⟨⟨h,o⟩,aI,cI,aR,cR⟩:=s
 simp only [SlotA.cells,SlotA.reads] at*
 cases h with
 | true=>
  have C1:=specObjOk_any o aI cI aR cR W hr' (by omega) (by omega)
  have HE:Hid (slotB ⟨true,o⟩=okB o):=slotB_has rfl
  generalize slotB ⟨true,o⟩=R at*
  go_enter Tryz.func88,Tryz.ntmps88
  go_wp2_with fail
  rw [hW.out]
  refine C1.mono ?_
  rintro e w1 ⟨rfl,hb1⟩
  go_wp2
  go_ret
  exact ⟨ret_bool HE.out.symm,hbW.trans (hb1.mono hbW.size)⟩
 | false=>
  have HE:=slotB_of o
  generalize slotB ⟨false,o⟩=R at*
  obtain ⟨k,ints,refs⟩:=o
  obtain ⟨x0,x1,x2,x3,_⟩:=b0.four
  simp only at*
  by_cases hk:k=0
  case neg=>
   have HR:Hid (R=false):=HE false _ _ (decide_eq_false hk) rfl rfl
   have hkb:(k == 0)=false:=by simpa using hk
   clear HE hk
   go_enter Tryz.func88,Tryz.ntmps88
   go_wp2
   go_ret
   exact ⟨ret_bool HR.out.symm,by rw [hW.out];exact hbW⟩
  case pos=>
  subst hk
  by_cases hi:ints.length=0
  case neg=>
   have HR:Hid (R=false):=HE true false _ (decide_eq_true rfl) (decide_eq_false hi) rfl
   have hib:((ints.length:Int) == 0)=false:=by simp;exact fun e=>hi (by rw [e];rfl)
   clear HE hi
   go_enter Tryz.func88,Tryz.ntmps88
   go_wp2
   go_ret
   exact ⟨ret_bool HR.out.symm,by rw [hW.out];exact hbW⟩
  case pos=>
  by_cases hj:refs.length=0
  case neg=>
   have HR:Hid (R=false):=HE true true false (decide_eq_true rfl) (decide_eq_true hi) (decide_eq_false hj)
   have hib:((ints.length:Int) == 0)=true:=by simp;exact List.length_eq_zero_iff.1 hi
   have hjb:((refs.length:Int) == 0)=false:=by simp;exact fun e=>hj (by rw [e];rfl)
   clear HE hi hj
   go_enter Tryz.func88,Tryz.ntmps88
   go_wp2
   go_ret
   exact ⟨ret_bool HR.out.symm,by rw [hW.out];exact hbW⟩
  case pos=>
   have HR:Hid (R=true):=HE true true true (decide_eq_true rfl) (decide_eq_true hi) (decide_eq_true hj)
   have hib:((ints.length:Int) == 0)=true:=by simp;exact List.length_eq_zero_iff.1 hi
   have hjb:((refs.length:Int) == 0)=true:=by simp;exact List.length_eq_zero_iff.1 hj
   clear HE hi hj
   go_enter Tryz.func88,Tryz.ntmps88
   go_wp2
   go_ret
   exact ⟨ret_bool HR.out.symm,by rw [hW.out];exact hbW⟩
theorem okP_no {n:Int} {ss:List SlotA} (k:Nat) (hk:k<ss.length) (h:slotB (ss.getD k zeroS).v=false):okP n (ss.map (·.v))=false:=by
 have:(ss.map (·.v)).all slotB=false:=by
  rw [List.all_eq_false]
  exact ⟨(ss.getD k zeroS).v,List.mem_map.2 ⟨_,getD_mem hk,rfl⟩,by rw [h];decide⟩
 simp [okP,this]
theorem okP_all {n:Int} {ss:List SlotA} (h:∀ j,j<ss.length→slotB (ss.getD j zeroS).v=true):okP n (ss.map (·.v))=inB n 0 1000000:=by
 have:(ss.map (·.v)).all slotB=true:=by
  rw [List.all_eq_true]
  intro v hv
  obtain ⟨s,hs,rfl⟩:=List.mem_map.1 hv
  obtain ⟨j,hj,rfl⟩:=List.getElem_of_mem hs
  have:=h j hj
  simpa [List.getD,hj] using this
 simp [okP,this]
theorem specPageOk_any (p:PageA) (h4:p.ss.length=4) (w:World) (hr:ReadsS w p.ss) (hl:Fit p.ss):
  Calls Tryz.prog 54 #[.agg p.cells.toArray] w fun e w'=>e=.returned (.bool (okP p.lsn (p.ss.map (·.v))))∧Below w.heap.size w w':=by
 obtain ⟨n,ss⟩:=p
 simp only [PageA.cells] at*
 obtain ⟨W,hW,b0,hbW,hsW⟩:=boxes1 w (.int .i64 n::cellsS ss) 47
 have H4:Hid (ss.length=4):=h4
 have HNO:Hid (∀ k,k<ss.length→slotB (ss.getD k zeroS).v=false→okP n (ss.map (·.v))=false):=fun k hk h=>okP_no k hk h
 have HAL:Hid ((∀ j,j<ss.length→slotB (ss.getD j zeroS).v=true)→okP n (ss.map (·.v))=inB n 0 1000000):=fun h=>okP_all h
 generalize okP n (ss.map (·.v))=R at*
 clear hsW h4
 go_enter Tryz.func54,Tryz.ntmps54
 go_wp2_with fail
 rw [hW.out]
 clear hW
 go_loopw [3] (fun i wr=>∃ (k:Nat),i=.int .i64 k∧k≤4∧Hid (∀ j,j<k→slotB (ss.getD j zeroS).v=true)∧Below W.heap.size W wr)
  (fun i _=>4-(RowKit.intOf i).toNat)
 case atStart=>exact ⟨0,rfl,by omega,fun j hj=>by omega,Below.refl _ _⟩
 case round=>
  obtain ⟨k,rfl,hk,hall,hbl⟩:=hrel
  have b0r:=b0.below hbl b0.lt
  have hbT:Below w.heap.size w wr:=hbW.trans (hbl.mono hbW.size)
  by_cases hlt:k<4
  ·have hkl:k<ss.length:=by rw [H4.out];exact hlt
   obtain ⟨c0,c1,c2,c3,_⟩:=b0r.pslot k hkl
   have hi0:(0:Int)≤(k:Int):=by omega
   have hi4:(k:Int)<4:=by omega
   have hrk:=(hr _ (getD_mem hkl)).below hbT
   have hlk:Fit [ss.getD k zeroS]:=fun s hs=>by obtain rfl:=List.mem_singleton.1 hs;exact hl _ (getD_mem hkl)
   have C:=l3Slot_any (ss.getD k zeroS) wr hrk hlk
   simp only [SlotA.cells] at C
   cases hz:slotB (ss.getD k zeroS).v with
   | false=>
    have HR:Hid (R=false):=HNO.out k hkl hz
    rw [hz] at C
    clear hz
    generalize ss.getD k zeroS=s at*
    go_wp2_with fail
    refine C.mono ?_
    rintro e w1 ⟨rfl,hb1⟩
    go_wp2
    go_ret
    exact ⟨ret_bool HR.out.symm,hbT.trans (hb1.mono hbT.size)⟩
   | true=>
    have HN:Hid (∀ j,j<k+1→slotB (ss.getD j zeroS).v=true):=by
     intro j hj
     by_cases e:j=k
     ·rw [e];exact hz
     ·exact hall.out j (by omega)
    rw [hz] at C
    clear hz hrk hlk
    generalize hs:ss.getD k zeroS=s at*
    clear hs
    go_wp2_with fail
    refine C.mono ?_
    rintro e w1 ⟨rfl,hb1⟩
    clear C
    go_wp2_with fail
    go_roundw
    case rel=>exact ⟨k+1,by go_num,by omega,HN,hbl.trans (hb1.mono hbl.size)⟩
    case measure=>simp [RowKit.intOf];omega
  ·have hkk:¬ (k:Int)<4:=by omega
   have HR:Hid (R=inB n 0 1000000):=HAL.out (fun j hj=>hall.out j (by rw [H4.out] at hj;omega))
   have c0:=b0r.cell 0 _ rfl
   go_wp2_with fail
   refine (l1In_any _ _ _ _).mono ?_
   rintro e w' ⟨rfl,rfl⟩
   go_wp2
   go_ret
   exact ⟨ret_bool HR.out.symm,hbT⟩
def okR (r:RecV):Bool:=
 inB r.lsn 1 1000000 && (slotB r.bf && (slotB r.af &&
  (if r.kind == 6 then zeroB r false false false false true && livesB r.lsn r.txs
   else inB r.tx 1 1000 && (inB r.prev 0 (r.lsn-1) &&
   (if r.kind == 1 then zeroB r true true true false false && inB r.oid 1 31
    else if r.kind == 4 then zeroB r true true false true false && (inB r.oid 1 31 && inB r.next 0 (r.lsn-1))
    else if r.kind == 2 then zeroB r true false false false false
    else if r.kind == 3 then zeroB r true false false false false
    else if r.kind == 5 then zeroB r true false false false false
    else false)))))
theorem inB_both {x l m:Int} (h:inB x l m=true):l≤x∧x≤m:=by simpa [inB] using h
theorem fifteen {w:World} {B:Nat} {x0 x1 x2 x3 x4 x5 x6 x7 x8 x9 x10 x11 x12 x13 x14:Value} {t:TypeId} (b:Box w B [x0,x1,x2,x3,x4,x5,x6,x7,x8,x9,x10,x11,x12,x13,x14] t):
  w.cell? ⟨B,0,none⟩=some x0∧w.cell? ⟨B,1,none⟩=some x1∧w.cell? ⟨B,2,none⟩=some x2∧w.cell? ⟨B,3,none⟩=some x3∧w.cell? ⟨B,4,none⟩=some x4∧w.cell? ⟨B,5,none⟩=some x5∧w.cell? ⟨B,6,none⟩=some x6∧w.cell? ⟨B,7,none⟩=some x7∧w.cell? ⟨B,8,none⟩=some x8∧w.cell? ⟨B,9,none⟩=some x9∧w.cell? ⟨B,10,none⟩=some x10∧w.cell? ⟨B,11,none⟩=some x11∧w.cell? ⟨B,12,none⟩=some x12∧w.cell? ⟨B,13,none⟩=some x13∧w.cell? ⟨B,14,none⟩=some x14:=
 ⟨b.cell 0 _ rfl,b.cell 1 _ rfl,b.cell 2 _ rfl,b.cell 3 _ rfl,b.cell 4 _ rfl,b.cell 5 _ rfl,b.cell 6 _ rfl,b.cell 7 _ rfl,b.cell 8 _ rfl,b.cell 9 _ rfl,b.cell 10 _ rfl,b.cell 11 _ rfl,b.cell 12 _ rfl,b.cell 13 _ rfl,b.cell 14 _ rfl⟩
theorem specRecOk_any (r:RecA) (w:World) (hr:r.reads w) (hl:r.short 1099511627776):
  Calls Tryz.prog 85 #[.agg r.cells.toArray] w fun e w'=>e=.returned (.bool (okR r.v))∧Below w.heap.size w w':=by
 obtain ⟨W,hW,b0,hbW,hsW⟩:=boxes1 w r.cells 100
 have HB:Hid (∀ u,Below w.heap.size w u→Calls _ _ _ _ _):=fun u hu=>l3Slot_any r.bf u (ReadsO.below hr.bf hu) (fun s hs=>by obtain rfl:=List.mem_singleton.1 hs;exact hl.bf)
 have HA:Hid (∀ u,Below w.heap.size w u→Calls _ _ _ _ _):=fun u hu=>l3Slot_any r.af u (ReadsO.below hr.af hu) (fun s hs=>by obtain rfl:=List.mem_singleton.1 hs;exact hl.af)
 have HC:Hid (∀ u,Below w.heap.size w u→Calls _ _ _ _ _):=fun u hu=>l4Zero_check r u (hr.below hu) hl
 have HS:Hid (∀ u,Below w.heap.size w u→Calls _ _ _ _ _):=fun u hu=>l4Zero_set r u (hr.below hu) hl
 have HK:Hid (∀ u,Below w.heap.size w u→Calls _ _ _ _ _):=fun u hu=>l4Zero_back r u (hr.below hu) hl
 have HE:Hid (∀ u,Below w.heap.size w u→Calls _ _ _ _ _):=fun u hu=>l4Zero_end r u (hr.below hu) hl
 have HL:Hid (∀ u,Below w.heap.size w u→1≤r.lsn∧r.lsn≤1000000→Calls _ _ _ _ _):=fun u hu hn=>l4Lives_any r u (hr.txs.below hu) hl.txs hn
 have HX:Hid (∀ u,Below W.heap.size W u→Box u w.heap.size r.cells 100):=fun u hu=>b0.below hu b0.lt
 have HZ:Hid (okR r.v=(inB r.lsn 1 1000000 && (slotB r.bf.v && (slotB r.af.v &&
  (if r.kind == 6 then zeroB r.v false false false false true && livesB r.lsn r.txs
   else inB r.tx 1 1000 && (inB r.prev 0 (r.lsn-1) &&
   (if r.kind == 1 then zeroB r.v true true true false false && inB r.oid 1 31
    else if r.kind == 4 then zeroB r.v true true false true false && (inB r.oid 1 31 && inB r.next 0 (r.lsn-1))
    else if r.kind == 2 then zeroB r.v true false false false false
    else if r.kind == 3 then zeroB r.v true false false false false
    else if r.kind == 5 then zeroB r.v true false false false false
    else false)))))) ):=rfl
 generalize okR r.v=R at*
 clear hsW hr hl b0
 simp only [RecA.cells,SlotA.cells] at*
 go_enter Tryz.func85,Tryz.ntmps85
 go_wp2_with fail
 rw [hW.out]
 clear hW
 obtain ⟨x0,x1,x2,x3,x4,x5,x6,x7,x8,x9,x10,x11,x12,x13,x14⟩:=fifteen (HX.out W (Below.refl _ _))
 have BW:Below W.heap.size W W:=Below.refl _ _
 refine (l1In_any _ _ _ W).mono ?_
 rintro e u ⟨rfl,hu⟩
 rw [hu]
 clear hu u
 cases h0:inB r.lsn 1 1000000 with
 | false=>
  have HR:Hid (R=false):=by rw [Hid,HZ.out];simp [h0]
  clear HZ
  go_wp2
  go_ret
  exact ⟨ret_bool HR.out.symm,hbW⟩
 | true=>
  have hn:=inB_both h0
  go_wp2_with fail
  refine (HB.out W hbW).mono ?_
  clear x0 x1 x2 x3 x4 x5 x6 x7 x8 x9 x10 x11 x12 x13 x14
  rintro e u1 ⟨rfl,hb_u1⟩
  have b_u1:Below w.heap.size w u1:=(hbW).trans (hb_u1.mono (hbW).size)
  have l_u1:Below W.heap.size W u1:=(BW).trans (hb_u1.mono (BW).size)
  obtain ⟨x0,x1,x2,x3,x4,x5,x6,x7,x8,x9,x10,x11,x12,x13,x14⟩:=fifteen (HX.out u1 l_u1)
  clear hb_u1
  cases h1:slotB r.bf.v with
  | false=>
   have HR:Hid (R=false):=by rw [Hid,HZ.out];simp [h0,h1]
   clear HZ
   go_wp2
   go_ret
   exact ⟨ret_bool HR.out.symm,b_u1⟩
  | true=>
   go_wp2_with fail
   refine (HA.out u1 b_u1).mono ?_
   clear x0 x1 x2 x3 x4 x5 x6 x7 x8 x9 x10 x11 x12 x13 x14
   rintro e u2 ⟨rfl,hb_u2⟩
   have b_u2:Below w.heap.size w u2:=(b_u1).trans (hb_u2.mono (b_u1).size)
   have l_u2:Below W.heap.size W u2:=(l_u1).trans (hb_u2.mono (l_u1).size)
   obtain ⟨x0,x1,x2,x3,x4,x5,x6,x7,x8,x9,x10,x11,x12,x13,x14⟩:=fifteen (HX.out u2 l_u2)
   clear hb_u2
   cases h2:slotB r.af.v with
   | false=>
    have HR:Hid (R=false):=by rw [Hid,HZ.out];simp [h0,h1,h2]
    clear HZ
    go_wp2
    go_ret
    exact ⟨ret_bool HR.out.symm,b_u2⟩
   | true=>
    cases hk6:(r.kind == 6) with
    | true=>
     go_wp2_with fail
     refine (HC.out u2 b_u2).mono ?_
     clear x0 x1 x2 x3 x4 x5 x6 x7 x8 x9 x10 x11 x12 x13 x14
     rintro e u3 ⟨rfl,hb_u3⟩
     have b_u3:Below w.heap.size w u3:=(b_u2).trans (hb_u3.mono (b_u2).size)
     have l_u3:Below W.heap.size W u3:=(l_u2).trans (hb_u3.mono (l_u2).size)
     obtain ⟨x0,x1,x2,x3,x4,x5,x6,x7,x8,x9,x10,x11,x12,x13,x14⟩:=fifteen (HX.out u3 l_u3)
     clear hb_u3
     cases h3:zeroB r.v false false false false true with
     | false=>
      have HR:Hid (R=false):=by rw [Hid,HZ.out];simp [h0,h1,h2,hk6,h3]
      clear HZ
      go_wp2
      go_ret
      exact ⟨ret_bool HR.out.symm,b_u3⟩
     | true=>
      go_wp2_with fail
      refine (HL.out u3 b_u3 hn).mono ?_
      clear x0 x1 x2 x3 x4 x5 x6 x7 x8 x9 x10 x11 x12 x13 x14
      rintro e u4 ⟨rfl,hb_u4⟩
      have b_u4:Below w.heap.size w u4:=(b_u3).trans (hb_u4.mono (b_u3).size)
      have l_u4:Below W.heap.size W u4:=(l_u3).trans (hb_u4.mono (l_u3).size)
      obtain ⟨x0,x1,x2,x3,x4,x5,x6,x7,x8,x9,x10,x11,x12,x13,x14⟩:=fifteen (HX.out u4 l_u4)
      clear hb_u4
      cases h4:livesB r.lsn r.txs with
      | false=>
       have HR:Hid (R=false):=by rw [Hid,HZ.out];simp [h0,h1,h2,hk6,h3,h4]
       clear HZ
       go_wp2
       go_ret
       exact ⟨ret_bool HR.out.symm,b_u4⟩
      | true=>
       have HR:Hid (R=true):=by rw [Hid,HZ.out];simp [h0,h1,h2,hk6,h3,h4]
       clear HZ
       go_wp2
       go_ret
       exact ⟨ret_bool HR.out.symm,b_u4⟩
    | false=>
     go_wp2_with fail
     refine (l1In_any _ _ _ u2).mono ?_
     rintro e v ⟨rfl,hv⟩
     rw [hv]
     clear hv v
     cases h3:inB r.tx 1 1000 with
     | false=>
      have HR:Hid (R=false):=by rw [Hid,HZ.out];simp [h0,h1,h2,hk6,h3]
      clear HZ
      go_wp2
      go_ret
      exact ⟨ret_bool HR.out.symm,b_u2⟩
     | true=>
      go_wp2_with fail
      refine (l1In_any _ _ _ u2).mono ?_
      rintro e v ⟨rfl,hv⟩
      rw [hv]
      clear hv v
      cases h4:inB r.prev 0 (r.lsn-1) with
      | false=>
       have HR:Hid (R=false):=by rw [Hid,HZ.out];simp [h0,h1,h2,hk6,h3,h4]
       clear HZ
       go_wp2
       go_ret
       exact ⟨ret_bool HR.out.symm,b_u2⟩
      | true=>
       cases hk1:(r.kind == 1) with
       | true=>
        go_wp2_with fail
        refine (HS.out u2 b_u2).mono ?_
        clear x0 x1 x2 x3 x4 x5 x6 x7 x8 x9 x10 x11 x12 x13 x14
        rintro e u3 ⟨rfl,hb_u3⟩
        have b_u3:Below w.heap.size w u3:=(b_u2).trans (hb_u3.mono (b_u2).size)
        have l_u3:Below W.heap.size W u3:=(l_u2).trans (hb_u3.mono (l_u2).size)
        obtain ⟨x0,x1,x2,x3,x4,x5,x6,x7,x8,x9,x10,x11,x12,x13,x14⟩:=fifteen (HX.out u3 l_u3)
        clear hb_u3
        cases h5:zeroB r.v true true true false false with
        | false=>
         have HR:Hid (R=false):=by rw [Hid,HZ.out];simp [h0,h1,h2,hk6,h3,h4,hk1,h5]
         clear HZ
         go_wp2
         go_ret
         exact ⟨ret_bool HR.out.symm,b_u3⟩
        | true=>
         go_wp2_with fail
         refine (l1In_any _ _ _ u3).mono ?_
         rintro e v ⟨rfl,hv⟩
         rw [hv]
         clear hv v
         cases h6:inB r.oid 1 31 with
         | false=>
          have HR:Hid (R=false):=by rw [Hid,HZ.out];simp [h0,h1,h2,hk6,h3,h4,hk1,h5,h6]
          clear HZ
          go_wp2
          go_ret
          exact ⟨ret_bool HR.out.symm,b_u3⟩
         | true=>
          have HR:Hid (R=true):=by rw [Hid,HZ.out];simp [h0,h1,h2,hk6,h3,h4,hk1,h5,h6]
          clear HZ
          go_wp2
          go_ret
          exact ⟨ret_bool HR.out.symm,b_u3⟩
       | false=>
        cases hk4:(r.kind == 4) with
        | true=>
         go_wp2_with fail
         refine (HK.out u2 b_u2).mono ?_
         clear x0 x1 x2 x3 x4 x5 x6 x7 x8 x9 x10 x11 x12 x13 x14
         rintro e u3 ⟨rfl,hb_u3⟩
         have b_u3:Below w.heap.size w u3:=(b_u2).trans (hb_u3.mono (b_u2).size)
         have l_u3:Below W.heap.size W u3:=(l_u2).trans (hb_u3.mono (l_u2).size)
         obtain ⟨x0,x1,x2,x3,x4,x5,x6,x7,x8,x9,x10,x11,x12,x13,x14⟩:=fifteen (HX.out u3 l_u3)
         clear hb_u3
         cases h5:zeroB r.v true true false true false with
         | false=>
          have HR:Hid (R=false):=by rw [Hid,HZ.out];simp [h0,h1,h2,hk6,h3,h4,hk1,hk4,h5]
          clear HZ
          go_wp2
          go_ret
          exact ⟨ret_bool HR.out.symm,b_u3⟩
         | true=>
          go_wp2_with fail
          refine (l1In_any _ _ _ u3).mono ?_
          rintro e v ⟨rfl,hv⟩
          rw [hv]
          clear hv v
          cases h6:inB r.oid 1 31 with
          | false=>
           have HR:Hid (R=false):=by rw [Hid,HZ.out];simp [h0,h1,h2,hk6,h3,h4,hk1,hk4,h5,h6]
           clear HZ
           go_wp2
           go_ret
           exact ⟨ret_bool HR.out.symm,b_u3⟩
          | true=>
           go_wp2_with fail
           refine (l1In_any _ _ _ u3).mono ?_
           rintro e v ⟨rfl,hv⟩
           rw [hv]
           clear hv v
           cases h7:inB r.next 0 (r.lsn-1) with
           | false=>
            have HR:Hid (R=false):=by rw [Hid,HZ.out];simp [h0,h1,h2,hk6,h3,h4,hk1,hk4,h5,h6,h7]
            clear HZ
            go_wp2
            go_ret
            exact ⟨ret_bool HR.out.symm,b_u3⟩
           | true=>
            have HR:Hid (R=true):=by rw [Hid,HZ.out];simp [h0,h1,h2,hk6,h3,h4,hk1,hk4,h5,h6,h7]
            clear HZ
            go_wp2
            go_ret
            exact ⟨ret_bool HR.out.symm,b_u3⟩
        | false=>
         cases hk2:(r.kind == 2) with
         | true=>
          go_wp2_with fail
          refine (HE.out u2 b_u2).mono ?_
          clear x0 x1 x2 x3 x4 x5 x6 x7 x8 x9 x10 x11 x12 x13 x14
          rintro e u3 ⟨rfl,hb_u3⟩
          have b_u3:Below w.heap.size w u3:=(b_u2).trans (hb_u3.mono (b_u2).size)
          have l_u3:Below W.heap.size W u3:=(l_u2).trans (hb_u3.mono (l_u2).size)
          obtain ⟨x0,x1,x2,x3,x4,x5,x6,x7,x8,x9,x10,x11,x12,x13,x14⟩:=fifteen (HX.out u3 l_u3)
          clear hb_u3
          cases h5:zeroB r.v true false false false false with
          | false=>
           have HR:Hid (R=false):=by rw [Hid,HZ.out];simp [h0,h1,h2,hk6,h3,h4,hk1,hk4,hk2,h5]
           clear HZ
           go_wp2
           go_ret
           exact ⟨ret_bool HR.out.symm,b_u3⟩
          | true=>
           have HR:Hid (R=true):=by rw [Hid,HZ.out];simp [h0,h1,h2,hk6,h3,h4,hk1,hk4,hk2,h5]
           clear HZ
           go_wp2
           go_ret
           exact ⟨ret_bool HR.out.symm,b_u3⟩
         | false=>
          cases hk3:(r.kind == 3) with
          | true=>
           go_wp2_with fail
           refine (HE.out u2 b_u2).mono ?_
           clear x0 x1 x2 x3 x4 x5 x6 x7 x8 x9 x10 x11 x12 x13 x14
           rintro e u3 ⟨rfl,hb_u3⟩
           have b_u3:Below w.heap.size w u3:=(b_u2).trans (hb_u3.mono (b_u2).size)
           have l_u3:Below W.heap.size W u3:=(l_u2).trans (hb_u3.mono (l_u2).size)
           obtain ⟨x0,x1,x2,x3,x4,x5,x6,x7,x8,x9,x10,x11,x12,x13,x14⟩:=fifteen (HX.out u3 l_u3)
           clear hb_u3
           cases h5:zeroB r.v true false false false false with
           | false=>
            have HR:Hid (R=false):=by rw [Hid,HZ.out];simp [h0,h1,h2,hk6,h3,h4,hk1,hk4,hk2,hk3,h5]
            clear HZ
            go_wp2
            go_ret
            exact ⟨ret_bool HR.out.symm,b_u3⟩
           | true=>
            have HR:Hid (R=true):=by rw [Hid,HZ.out];simp [h0,h1,h2,hk6,h3,h4,hk1,hk4,hk2,hk3,h5]
            clear HZ
            go_wp2
            go_ret
            exact ⟨ret_bool HR.out.symm,b_u3⟩
          | false=>
           cases hk5:(r.kind == 5) with
           | true=>
            go_wp2_with fail
            refine (HE.out u2 b_u2).mono ?_
            clear x0 x1 x2 x3 x4 x5 x6 x7 x8 x9 x10 x11 x12 x13 x14
            rintro e u3 ⟨rfl,hb_u3⟩
            have b_u3:Below w.heap.size w u3:=(b_u2).trans (hb_u3.mono (b_u2).size)
            have l_u3:Below W.heap.size W u3:=(l_u2).trans (hb_u3.mono (l_u2).size)
            obtain ⟨x0,x1,x2,x3,x4,x5,x6,x7,x8,x9,x10,x11,x12,x13,x14⟩:=fifteen (HX.out u3 l_u3)
            clear hb_u3
            cases h5:zeroB r.v true false false false false with
            | false=>
             have HR:Hid (R=false):=by rw [Hid,HZ.out];simp [h0,h1,h2,hk6,h3,h4,hk1,hk4,hk2,hk3,hk5,h5]
             clear HZ
             go_wp2
             go_ret
             exact ⟨ret_bool HR.out.symm,b_u3⟩
            | true=>
             have HR:Hid (R=true):=by rw [Hid,HZ.out];simp [h0,h1,h2,hk6,h3,h4,hk1,hk4,hk2,hk3,hk5,h5]
             clear HZ
             go_wp2
             go_ret
             exact ⟨ret_bool HR.out.symm,b_u3⟩
           | false=>
            have HR:Hid (R=false):=by rw [Hid,HZ.out];simp [h0,h1,h2,hk6,h3,h4,hk1,hk4,hk2,hk3,hk5]
            clear HZ
            go_wp2
            go_ret
            exact ⟨ret_bool HR.out.symm,b_u2⟩
theorem toPage_own (p:PageA) (h4:p.ss.length=4) (w:World) (hr:ReadsS w p.ss) (hl:∀ s∈p.ss,s.v.o.ints.length≤1099511627776∧s.v.o.refs.length≤1099511627776):
  Calls Tryz.prog 56 #[.agg p.cells.toArray] w fun e w'=>∃ ts:List SlotA,e=.returned (.agg (PageA.cells ⟨p.lsn,ts⟩).toArray)∧Hid (ts.map (·.v)=p.ss.map (·.v))∧OwnS w' w.heap.size w'.heap.size ts∧Below w.heap.size w w':=by
 obtain ⟨n,ss⟩:=p
 simp only [PageA.cells] at*
 obtain ⟨W,hW,b0,b1,b2,hbW,hsW⟩:=boxes3 w (.int .i64 n::cellsS ss) [.int .i64 0,.bool false,.int .i64 0,.slice none 0 0,.slice none 0 0,.bool false,.int .i64 0,.slice none 0 0,.slice none 0 0,.bool false,.int .i64 0,.slice none 0 0,.slice none 0 0,.bool false,.int .i64 0,.slice none 0 0,.slice none 0 0] [.int .i64 n,.bool false,.int .i64 0,.slice none 0 0,.slice none 0 0,.bool false,.int .i64 0,.slice none 0 0,.slice none 0 0,.bool false,.int .i64 0,.slice none 0 0,.slice none 0 0,.bool false,.int .i64 0,.slice none 0 0,.slice none 0 0] 29 47 47
 have b1':Box W (w.heap.size+1) ([]++((.int .i64 0::cellsS zero4)++[])) 47:=b1
 have b2':Box W (w.heap.size+1+1) ([.int .i64 n]++(cellsS zero4++[])) 47:=b2
 have hsW':w.heap.size+1+1<W.heap.size:=by omega
 clear b1 b2 hsW
 have hc0:=(box_new w (.int .i64 n::cellsS ss) 29).cell 0 _ rfl
 have hrg0:W.rangeAt w.heap.size 1 (cellsS ss):=Box.range [.int .i64 n] (cellsS ss) [] (by simpa using b0)
 have hi0:(Tryz.prog.info? 27).map (·.size)=some (cellsS ss).length:=by rw [cellsS_len,h4];kernel_rfl
 go_enter Tryz.func56,Tryz.ntmps56
 go_wp2_with (first | (guard_target=wpList _ _ _ (Oper.mk (some 8) _ _ _ _ _::_) _ _;refine wpList_load_mid rfl 27 (.tmp 7) rfl w.heap.size 1 rfl (cellsS ss) _ (by rw [hW.out];exact hrg0) Tryz.underlying27 rfl hi0 ?_) | fail)
 rw [hW.out]
 clear hW hrg0 hi0 hc0
 refine (toSlotA4_own ss h4 W (hr.below hbW) hl).mono ?_
 rintro e w1 ⟨ts,rfl,hv,ho,hb1⟩
 have htl:ts.length=4:=by have:=congrArg List.length hv.out;simp only [List.length_map] at this;omega
 have hs1:=hb1.size
 have b11:=b1'.below hb1 b1'.lt
 have b21:=b2'.below hb1 b2'.lt
 obtain ⟨W2,hW2,b22,hw2,hs2⟩:=range_fill [.int .i64 n] (cellsS zero4) (cellsS ts) [] b21 (by rw [cellsS_len,cellsS_len,htl];rfl)
 have hW2':w1.setCells (w.heap.size+1+1) 1 (cellsS ts)=W2:=hW2.out
 have b12:=b11.within hw2 (by omega)
 obtain ⟨WF,hWF,bF,hwF,hsF⟩:=range_fill [] (.int .i64 0::cellsS zero4) (.int .i64 n::cellsS ts) [] b12 (by simp only [List.length_cons,cellsS_len,htl];rfl)
 have hWF':W2.setCells (w.heap.size+1) 0 (.int .i64 n::cellsS ts)=WF:=hWF.out
 have ht2:w1.there (w.heap.size+1+1) 1 (cellsS ts).toArray.size:=b21.there 1 _ (by simp only [List.size_toArray,cellsS_len,htl,List.length_append,List.length_cons,List.length_nil];decide)
 have hr2:W2.rangeAt (w.heap.size+1+1) 0 (.int .i64 n::cellsS ts):=Box.range [] (.int .i64 n::cellsS ts) [] (by simpa using b22)
 have htF:W2.there (w.heap.size+1) 0 (.int .i64 n::cellsS ts).toArray.size:=b12.there 0 _ (by simp only [List.size_toArray,cellsS_len,htl,List.length_append,List.length_cons,List.length_nil];decide)
 have hrF:WF.rangeAt (w.heap.size+1) 0 (.int .i64 n::cellsS ts):=Box.range [] (.int .i64 n::cellsS ts) [] (by simpa using bF)
 have hi4:(Tryz.prog.info? 45).map (·.size)=some (cellsS ts).toArray.size:=by rw [List.size_toArray,cellsS_len,htl];kernel_rfl
 have hi7:(Tryz.prog.info? 47).map (·.size)=some (.int .i64 n::cellsS ts).length:=by rw [List.length_cons,cellsS_len,htl];kernel_rfl
 have h1S:=all_oneCell_toArray (oneS ts)
 have h1P:=all_oneCell_toArray (oneP ⟨n,ts⟩)
 simp only [PageA.cells] at h1P
 have hlF:=run_loadVar_mid (P:=Tryz.prog) WF (w.heap.size+1) 0 47 (.int .i64 n::cellsS ts) _ hrF Tryz.underlying47 rfl hi7
 have hbF:Below w.heap.size w WF:=((hbW.trans (hb1.mono (by omega))).trans (hw2.below (by omega) (by omega))).trans (hwF.below (by omega) (by omega))
 have hoF:OwnS WF w.heap.size WF.heap.size ts:=((ho.within hw2 (.inr (by omega))).within hwF (.inr (by omega))).widen (by omega) (by omega) (Nat.le_refl _)
 have HF:Hid (_∧_∧_):=⟨hlF,hbF,hoF⟩
 have HA:Hid (_∧_∧_):=⟨ht2,hr2,htF⟩
 have HI:Hid (_∧_):=⟨hi4,hi7⟩
 have HO:Hid (_∧_):=⟨h1S,h1P⟩
 have HW2:Hid (_=_):=hW2'
 have HWF:Hid (_=_):=hWF'
 clear hlF hbF hoF ht2 hr2 htF hi4 hi7 h1S h1P hW2' hWF' hrF hs2 hsF hw2 hwF b22 b12 b11 b21 bF hW2 hWF b0 b1' b2' hb1 hbW htl
 go_wp2_with (first | (guard_target=wpList _ _ _ (Oper.mk none (Op.store _ (Operand.tmp 10) _) _ _ _ _::_) _ _;refine wpList_store_mid rfl 45 (.tmp 10) (.tmp 9) rfl (w.heap.size+1+1) 1 (cellsS ts).toArray rfl rfl HA.out.1 HI.out.1 HO.out.1 ?_) | (guard_target=wpList _ _ _ (Oper.mk (some 11) _ _ _ _ _::_) _ _;refine wpList_load_mid rfl 47 (.tmp 3) rfl (w.heap.size+1+1) 0 rfl (.int .i64 n::cellsS ts) _ (by rw [HW2.out];exact HA.out.2.1) Tryz.underlying47 rfl HI.out.2 ?_) | (guard_target=wpList _ _ _ (Oper.mk none (Op.store _ (Operand.tmp 2) _) _ _ _ _::_) _ _;refine wpList_store_mid rfl 47 (.tmp 2) (.tmp 11) rfl (w.heap.size+1) 0 (.int .i64 n::cellsS ts).toArray rfl rfl (by rw [HW2.out];exact HA.out.2.2) (by rw [List.size_toArray];exact HI.out.2) HO.out.2 ?_) | fail)
 rw [HW2.out,HWF.out]
 exact bodyPost_ret (v:=.agg (.int .i64 n::cellsS ts).toArray) (results_one Tryz.results56 rfl HF.out.1) rfl ⟨ts,rfl,hv,HF.out.2.2,HF.out.2.1⟩
def noR:RecV:=⟨0,0,0,0,0,noS,noS,0,[]⟩
theorem equalInts_any (a b:Option Addr) (ca cb:Nat) (xs ys:List Int) (w:World) (ha:ReadsI w a xs) (hb:ReadsI w b ys) (hl:xs.length≤1099511627776) (hl2:ys.length≤1099511627776):
  Calls Tryz.prog 164 #[.slice a xs.length ca,.slice b ys.length cb] w fun e w'=>e=.returned (.bool (decide (xs=ys)))∧∃ n,w'=w.drewN n:=by
 by_cases hle:xs.length=ys.length
 case neg=>
  have HE:Hid (_=_):=ne_len hle
  have hle':((xs.length:Int) == (ys.length:Int))=false:=by simp;omega
  go_enter Tryz.func164,Tryz.ntmps164
  go_wp2
  go_ret
  exact ⟨ret_bool HE.out.symm,0,rfl⟩
 case pos=>
 have HL:Hid (xs.length=ys.length):=hle
 have hle':((xs.length:Int) == (ys.length:Int))=true:=by simp;omega
 rcases ha.cases with rfl | ⟨b1,o1,rfl,hpos,hc1⟩
 ·obtain rfl:ys=[]:=List.length_eq_zero_iff.1 (by simpa using hle.symm)
  have HE:Hid (decide (([]:List Int)=[])=true):=by simp [Hid]
  clear hle hle' HL
  go_enter Tryz.func164,Tryz.ntmps164
  go_wp2
  refine wp_loop_rounds 1 ?_
  rw [rounds_succ]
  go_wp2
  go_ret
  exact ⟨ret_bool HE.out.symm,0,rfl⟩
 ·rcases hb.cases with rfl | ⟨b2,o2,rfl,_,hc2⟩
  ·simp at hle;simp [hle] at hpos
  ·clear hle
   go_enter Tryz.func164,Tryz.ntmps164
   go_wp2
   go_loopw [13] (fun i wr=>∃ k:Nat,k≤xs.length∧i=.int .i64 k∧Hid (∀ t,t<k→xs.getD t 0=ys.getD t 0)∧∃ n,wr=w.drewN n) (fun i _=>xs.length-(RowKit.intOf i).toNat)
   case atStart=>exact ⟨0,Nat.zero_le _,rfl,fun t ht=>by omega,0,rfl⟩
   case round=>
    obtain ⟨k,hk,rfl,hall,n,rfl⟩:=hrel
    by_cases hlt:k<xs.length
    ·have h1:=hc1 k hlt
     have h2:=hc2 k (by have:=HL.out;omega)
     have hlt2:(k:Int)<(ys.length:Int):=by have:=HL.out;omega
     clear hc1 hc2
     by_cases hz:xs.getD k 0=ys.getD k 0
     ·have HN:Hid (∀ t,t<k+1→xs.getD t 0=ys.getD t 0):=by
       intro t ht
       by_cases e:t=k
       ·rw [e];exact hz
       ·exact hall.out t (by omega)
      rw [← hz] at h2
      clear hz
      generalize xs.getD k 0=z at*
      go_wp2
      go_quiet (fail)
      go_wp2
      go_roundw
      case rel=>exact ⟨k+1,by omega,by go_num,HN,_,rfl⟩
      case measure=>simp [RowKit.intOf];omega
     ·have HE:Hid (_=_):=ne_at k hz
      have hzb:(xs.getD k 0 == ys.getD k 0)=false:=by simpa using hz
      clear hz
      generalize xs.getD k 0=z at*
      generalize ys.getD k 0=y at*
      go_wp2
      go_quiet (fail)
      go_wp2
      go_ret
      exact ⟨ret_bool HE.out.symm,n+nq,by first | rfl | simp⟩
    ·have HE:Hid (_=_):=eq_all HL.out (fun t ht=>hall.out t (by omega))
     go_wp2
     go_ret
     exact ⟨ret_bool HE.out.symm,n,rfl⟩
theorem implSameObj_any (o p:ObjV) (aI:Option Addr) (cI:Nat) (aR:Option Addr) (cR:Nat) (bI:Option Addr) (dI:Nat) (bR:Option Addr) (dR:Nat) (w:World) (ha:ReadsO w aI cI aR cR o) (hb:ReadsO w bI dI bR dR p) (h1:o.ints.length≤1099511627776) (h2:o.refs.length≤1099511627776) (h3:p.ints.length≤1099511627776) (h4:p.refs.length≤1099511627776):
  Calls Tryz.prog 158 #[.agg #[.int .i64 o.kind,.slice aI o.ints.length cI,.slice aR o.refs.length cR],.agg #[.int .i64 p.kind,.slice bI p.ints.length dI,.slice bR p.refs.length dR]] w fun e w'=>e=.returned (.bool (sameO o p))∧Below w.heap.size w w':=by
 obtain ⟨k,ints,refs⟩:=o
 obtain ⟨k',ints',refs'⟩:=p
 obtain ⟨haI,haR,_,_⟩:=ha
 obtain ⟨hbI,hbR,_,_⟩:=hb
 simp only at*
 obtain ⟨W,hW,b0,b1,hbW,hsW⟩:=boxes2 w [.int .i64 k,.slice aI ints.length cI,.slice aR refs.length cR] [.int .i64 k',.slice bI ints'.length dI,.slice bR refs'.length dR] 42 42
 by_cases hk:k=k'
 case neg=>
  have HE:Hid (sameO ⟨k,ints,refs⟩ ⟨k',ints',refs'⟩=false):=by simp [Hid,sameO,hk]
  have hkb:(k == k')=false:=by simpa using hk
  clear hk
  go_enter Tryz.func158,Tryz.ntmps158
  go_wp2
  go_ret
  exact ⟨ret_bool HE.out.symm,by rw [hW.out];exact hbW⟩
 case pos=>
 subst hk
 have HE:Hid (sameO ⟨k,ints,refs⟩ ⟨k,ints',refs'⟩=(decide (ints=ints') && decide (refs=refs'))):=by simp [Hid,sameO]
 go_enter Tryz.func158,Tryz.ntmps158
 go_wp2_with fail
 rw [hW.out]
 refine (equalInts_any aI bI cI dI ints ints' W (haI.below hbW) (hbI.below hbW) h1 h3).mono ?_
 rintro e w1 ⟨rfl,n1,rfl⟩
 have c0:=(b0.drewN n1).cell 2 _ rfl
 have c1:=(b1.drewN n1).cell 2 _ rfl
 have hb1:Below w.heap.size w (W.drewN n1):=below_drewN hbW n1
 cases hd:decide (ints=ints') with
 | false=>
  rw [hd] at HE
  clear hd
  go_wp2
  go_ret
  exact ⟨ret_bool (by rw [HE.out];rfl),hb1⟩
 | true=>
  rw [hd] at HE
  clear hd
  go_wp2_with fail
  refine (equalInts_any aR bR cR dR refs refs' (W.drewN n1) (haR.below hb1) (hbR.below hb1) h2 h4).mono ?_
  rintro e w2 ⟨rfl,n2,rfl⟩
  generalize decide (refs=refs')=D at*
  go_wp2
  go_ret
  exact ⟨ret_bool (by rw [HE.out];rfl),below_drewN hbW (n1+n2)⟩
theorem lives_oneCell (zs:List LiveV):∀ v∈cellsL zs,v.oneCell'=true:=by
 intro v hv
 obtain ⟨s,_,hs⟩:=List.mem_flatMap.1 hv
 simp only [LiveV.cells,List.mem_cons,List.not_mem_nil,or_false] at hs
 rcases hs with rfl | rfl | rfl<;>rfl
theorem append_lives {w:World} {ops:Array Oper} {rest:List Oper} {o:Oper} {act:Act} {Q:Exit→Act→World→Prop} (hgd:o.guard=none) (s x:Operand)
  (ho:o.op=.call { callee:=.builtin .append,args:=#[s,x],argTypes:=#[55,55] })
  (lo hi:Nat) (a:Option Addr) (c:Nat) (xs:List LiveV) (hs:act.eval s=.slice a xs.length c) (hown:OwnL w lo hi a c xs)
  (sa:Option Addr) (sc:Nat) (zs:List LiveV) (hx:act.eval x=.slice sa zs.length sc) (hr:ReadsL w sa zs) (hc:sa=none→sc=0)
  (hb:xs.length+zs.length≤1099511627776) (hlo:lo≤w.heap.size)
  (h:∀ a' c' ys w',Hid (ys=xs++zs)→OwnL w' lo w'.heap.size a' c' ys→w.grownBy w' (Value.slice a xs.length c).ownBlock→wpList Tryz.prog ops Q rest (act.put o.dst (.slice a' ys.length c')) w'):
  wpList Tryz.prog ops Q (o::rest) act w:=by
 obtain ⟨i0,hi0,hz0,hz1,hz2⟩:=info_parts Tryz.infoLive
 have fin:∀ v' w',w'.ownsRow lo 109 3 v' (xs.length+zs.length) (cellsL xs++cellsL zs)→w.grownBy w' (Value.slice a xs.length c).ownBlock→wpList Tryz.prog ops Q rest (act.put o.dst v') w':=by
  intro v' w' h1 h2
  rw [← cellsL_app,← List.length_append] at h1
  have sh:∃ a' c',v'=.slice a' (xs++zs).length c':=by
   rcases h1.2 with ⟨rfl,h0⟩ | ⟨g,cap,cur,rfl,_⟩
   ·exact ⟨none,0,by rw [h0]⟩
   ·exact ⟨_,_,rfl⟩
  obtain ⟨a',c',rfl⟩:=sh
  exact h a' c' (xs++zs) w' rfl ⟨h1,Nat.le_refl _,fun k hk=>(h1.lt k hk).2⟩ h2
 cases sa with
 | none=>
  have hz:zs=[]:=by
   by_cases e:zs=[]
   ·exact e
   ·obtain ⟨b,off,hh,_⟩:=hr e
    cases hh
  subst hz
  have:=hc rfl
  subst this
  exact wpList_append_own_none hgd s x 55 ho lo 109 i0 3 Tryz.underlying55 hi0 _ _ _ hs hown.1 hx (fin _ w (by simpa [cellsL] using hown.1) (World.grownBy.refl _ _))
 | some ad=>
  refine wpList_append_own w hgd s x 55 ho lo 109 i0 (.agg #[.int .i64 0,.int .i64 0,.bool false]) 3 24 Tryz.underlying55 hi0 hz0 hz1 hz2 rfl (by decide) _ _ _ hs hown.1 ad zs.length sc (cellsL zs) hx (by rw [cellsL_len]) ?_ (lives_oneCell _) (by simp only [maxLen];omega) (by omega) hlo (fun v' w' h1 h2 _=>fin v' w' h1 h2)
  intro j u hj
  have hjl:j<zs.length*3:=by rw [← cellsL_len];exact (List.getElem?_eq_some_iff.1 hj).1
  have hne:zs≠[]:=by intro e;simp [e] at hjl
  obtain ⟨b,off,hh,hcell⟩:=hr hne
  cases hh
  have hat:=cellsL_at zs (j / 3) (j % 3) (by omega) (Nat.mod_lt _ (by omega))
  rw [show j / 3*3+j % 3=j by omega,hj] at hat
  obtain ⟨k0,k1,k2⟩:=hcell (j / 3) (by omega)
  rw [Addr_add]
  rcases (by omega:j % 3=0∨j % 3=1∨j % 3=2) with h' | h' | h'<;>rw [h'] at hat<;>simp only [LiveV.cells,List.getElem?_cons_zero,List.getElem?_cons_succ,Option.some.injEq] at hat
  ·rw [show off+j=off+j / 3*3 by omega,k0,hat]
  ·rw [show off+j=off+j / 3*3+1 by omega,k1,hat]
  ·rw [show off+j=off+j / 3*3+2 by omega,k2,hat]
end Go.Proofs.YtcoeamamaifoeaaGreatDoor
namespace Go.Proofs.YtcoeamamaifoeaaGreatDoor
open Go.RowKit
structure HoldV where
 tx:Int
 oid:Int
def HoldV.cells (l:HoldV):List Value:=[.int .i64 l.tx,.int .i64 l.oid]
def zeroH:HoldV:=⟨0,0⟩
def cellsH (ls:List HoldV):List Value:=ls.flatMap HoldV.cells
theorem cellsH_len (ls:List HoldV):(cellsH ls).length=ls.length*2:=by
 induction ls with
 | nil=>rfl
 | cons s r ih=>simp only [cellsH,List.flatMap_cons,List.length_append,HoldV.cells,List.length_cons,List.length_nil] at *;omega
theorem cellsH_app (a b:List HoldV):cellsH (a++b)=cellsH a++cellsH b:=by simp [cellsH]
theorem cellsH_at (ls:List HoldV) (k j:Nat) (hk:k<ls.length) (hj:j<2):(cellsH ls)[k*2+j]? =(ls.getD k zeroH).cells[j]? :=by
 induction ls generalizing k with
 | nil=>simp at hk
 | cons s r ih=>
  have e:cellsH (s::r)=s.cells++cellsH r:=by simp [cellsH]
  have l3:s.cells.length=2:=rfl
  rw [e]
  cases k with
  | zero=>rw [List.getElem?_append_left (by rw [l3];omega)];simp
  | succ k=>
   rw [List.getElem?_append_right (by rw [l3];omega),l3]
   have:=ih k (by simpa using hk)
   rw [show (k+1)*2+j-2=k*2+j by omega,this]
   simp
theorem cellsH_set (ls:List HoldV) (k:Nat) (hk:k<ls.length) (t:HoldV):
  ((cellsH ls).set (k*2) (.int .i64 t.tx)).set (k*2+1) (.int .i64 t.oid)=cellsH (ls.set k t):=by
 induction ls generalizing k with
 | nil=>simp at hk
 | cons s r ih=>
  cases k with
  | zero=>simp [cellsH,HoldV.cells]
  | succ k=>
   have:=ih k (by simpa using hk)
   have e2:∀ x,cellsH (s::x)=s.cells++cellsH x:=fun x=>by simp [cellsH]
   have l3:s.cells.length=2:=rfl
   rw [e2,List.set_append_right _ _ (by rw [l3];omega),List.set_append_right _ _ (by rw [l3];omega),l3,show (k+1)*2-2=k*2 by omega,show (k+1)*2+1-2=k*2+1 by omega,this,List.set_cons_succ,e2]
def ReadsH (w:World) (a:Option Addr) (ls:List HoldV):Prop:=ls≠[]→∃ b off,a=some ⟨b,off,none⟩∧∀ k,k<ls.length→w.cell? ⟨b,off+k*2,none⟩=some (.int .i64 (ls.getD k zeroH).tx)∧w.cell? ⟨b,off+k*2+1,none⟩=some (.int .i64 (ls.getD k zeroH).oid)
theorem ReadsH.nil (w:World) (a:Option Addr):ReadsH w a []:=fun h=>absurd rfl h
theorem ReadsH.below {w w':World} {a:Option Addr} {ls:List HoldV} (h:ReadsH w a ls) (hb:Below w.heap.size w w'):ReadsH w' a ls:=by
 intro hne
 obtain ⟨b,off,ha,hc⟩:=h hne
 refine ⟨b,off,ha,fun k hk=>?_⟩
 obtain ⟨h0,h1⟩:=hc k hk
 have hlt:=block_lt h0
 exact ⟨by rw [hb.cell (p:=⟨b,off+k*2,none⟩) hlt];exact h0,by rw [hb.cell (p:=⟨b,off+k*2+1,none⟩) hlt];exact h1⟩
theorem ReadsH.cases {w:World} {a:Option Addr} {ls:List HoldV} (h:ReadsH w a ls):ls=[]∨∃ b off,a=some ⟨b,off,none⟩∧0<ls.length∧∀ k,k<ls.length→w.cell? ⟨b,off+k*2,none⟩=some (.int .i64 (ls.getD k zeroH).tx)∧w.cell? ⟨b,off+k*2+1,none⟩=some (.int .i64 (ls.getD k zeroH).oid):=by
 by_cases e:ls=[]
 ·exact .inl e
 ·obtain ⟨b,off,ha,hc⟩:=h e
  exact .inr ⟨b,off,ha,List.length_pos_iff.2 e,hc⟩
def OwnH (w:World) (lo hi:Nat) (a:Option Addr) (c:Nat) (ls:List HoldV):Prop:=
 w.ownsRow lo 113 2 (.slice a ls.length c) ls.length (cellsH ls)∧hi≤w.heap.size∧∀ k,(Value.slice a ls.length c).ownBlock=some k→k<hi
theorem OwnH.lt {w:World} {lo hi:Nat} {a:Option Addr} {c:Nat} {ls:List HoldV} (h:OwnH w lo hi a c ls):∀ k,(Value.slice a ls.length c).ownBlock=some k→lo≤k∧k<hi:=fun k hk=>⟨(h.1.lt k hk).1,h.2.2 k hk⟩
theorem OwnH.touch {w w':World} {lo hi:Nat} {a:Option Addr} {c:Nat} {ls:List HoldV} {bl:List Nat} (h:OwnH w lo hi a c ls) (ht:Touch bl w w') (hd:∀ k,(Value.slice a ls.length c).ownBlock=some k→k∉bl):OwnH w' lo hi a c ls:=
 ⟨ownsRow_block h.1 (fun k hk=>ht.block k (h.1.lt k hk).2 (hd k hk)),Nat.le_trans h.2.1 ht.size,h.2.2⟩
theorem OwnH.within {w w':World} {lo hi l r:Nat} {a:Option Addr} {c:Nat} {ls:List HoldV} (h:OwnH w lo hi a c ls) (hw:Within l r w w') (hd:hi≤l∨r≤lo):OwnH w' lo hi a c ls:=
 ⟨ownsRow_block h.1 (fun k hk=>hw.block k (by have:=h.2.2 k hk;have:=h.2.1;omega) (by have:=h.lt k hk;omega)),Nat.le_trans h.2.1 hw.size,h.2.2⟩
theorem OwnH.below {w w':World} {lo hi:Nat} {a:Option Addr} {c:Nat} {ls:List HoldV} (h:OwnH w lo hi a c ls) (hb:Below w.heap.size w w'):OwnH w' lo hi a c ls:=
 h.within (Within.of_below (lo:=w.heap.size) (hi:=w.heap.size) hb) (.inl h.2.1)
theorem OwnH.widen {w:World} {lo hi lo' hi':Nat} {a:Option Addr} {c:Nat} {ls:List HoldV} (h:OwnH w lo hi a c ls) (h1:lo'≤lo) (h2:hi≤hi') (h3:hi'≤w.heap.size):OwnH w lo' hi' a c ls:=
 ⟨ownsRow_base h.1 (fun k hk=>by have:=h.lt k hk;omega),h3,fun k hk=>by have:=h.lt k hk;omega⟩
theorem ownH_nil (w:World) (lo hi:Nat) (h:hi≤w.heap.size):OwnH w lo hi none 0 []:=⟨⟨by simp [cellsH],.inl ⟨rfl,rfl⟩⟩,h,fun k hk=>by cases hk⟩
theorem OwnH.nocap {w:World} {lo hi:Nat} {a:Option Addr} {c:Nat} {ls:List HoldV} (h:OwnH w lo hi a c ls):a=none→c=0:=by
 intro ha
 rcases h.1.2 with ⟨hv,_⟩ | ⟨g,cap,cur,hv,_⟩
 ·simp only [Value.slice.injEq] at hv;exact hv.2.2
 ·simp [ha] at hv
theorem row_hold {w:World} {base g n cap:Nat} {ls:List HoldV} (h:w.ownsRow base 113 2 (.slice (some ⟨g,0,none⟩) n cap) n (cellsH ls)) (hn:ls.length=n) (k:Nat) (hk:k<n):
  w.cell? ⟨g,k*2,none⟩=some (.int .i64 (ls.getD k zeroH).tx)∧w.cell? ⟨g,k*2+1,none⟩=some (.int .i64 (ls.getD k zeroH).oid)∧(∀ i,w.frozen? ⟨g,i,none⟩=false):=by
 have a0:=cellsH_at ls k 0 (by omega) (by omega)
 have a1:=cellsH_at ls k 1 (by omega) (by omega)
 simp only [HoldV.cells,Nat.add_zero,List.getElem?_cons_zero,List.getElem?_cons_succ] at a0 a1
 exact ⟨by rw [h.cellAt (k*2) (by omega)];exact a0,by rw [h.cellAt (k*2+1) (by omega)];exact a1,fun i=>h.frozenAt i⟩
theorem row_storeH {w:World} {base g n cap:Nat} {ls:List HoldV} (h:w.ownsRow base 113 2 (.slice (some ⟨g,0,none⟩) n cap) n (cellsH ls)) (hn:ls.length=n) (k:Nat) (hk:k<n) (t:HoldV):
  ∃ W,Hid ((w.setCell ⟨g,k*2,none⟩ (.int .i64 t.tx)).setCell ⟨g,k*2+1,none⟩ (.int .i64 t.oid)=W)∧W.ownsRow base 113 2 (.slice (some ⟨g,0,none⟩) n cap) n (cellsH (ls.set k t))∧w.grownBy W (some g):=by
 have s1:=h.stored (k*2) (.int .i64 t.tx)
 have s2:=s1.1.stored (k*2+1) (.int .i64 t.oid)
 refine ⟨_,rfl,?_,grownBy_trans s1.2 s2.2⟩
 have:=s2.1
 rw [cellsH_set ls k (by omega) t] at this
 exact this
theorem OwnH.reads {w:World} {lo hi:Nat} {a:Option Addr} {c:Nat} {ls:List HoldV} (h:OwnH w lo hi a c ls):ReadsH w a ls:=by
 intro hne
 rcases h.1.2 with ⟨_,h0⟩ | ⟨g,cap',cur,hv,hb,hg,hr⟩
 ·exact absurd (List.length_eq_zero_iff.1 h0) hne
 ·simp only [Value.slice.injEq] at hv
  obtain ⟨rfl,_,rfl⟩:=hv
  refine ⟨g,0,rfl,fun k hk=>?_⟩
  obtain ⟨a0,a1,_⟩:=row_hold h.1 rfl k hk
  rw [Nat.zero_add]
  exact ⟨a0,a1⟩
theorem Tryz.infoHold:(Tryz.prog.info? 113).map (fun i=>(i.zero,i.size,i.bytes))=some (some (.agg #[.int .i64 0,.int .i64 0]),2,16):=by kernel_rfl
theorem holds_oneCell (zs:List HoldV):∀ v∈cellsH zs,v.oneCell'=true:=by
 intro v hv
 obtain ⟨s,_,hs⟩:=List.mem_flatMap.1 hv
 simp only [HoldV.cells,List.mem_cons,List.not_mem_nil,or_false] at hs
 rcases hs with rfl | rfl<;>rfl
theorem append_holds {w:World} {ops:Array Oper} {rest:List Oper} {o:Oper} {act:Act} {Q:Exit→Act→World→Prop} (hgd:o.guard=none) (s x:Operand)
  (ho:o.op=.call { callee:=.builtin .append,args:=#[s,x],argTypes:=#[56,56] })
  (lo hi:Nat) (a:Option Addr) (c:Nat) (xs:List HoldV) (hs:act.eval s=.slice a xs.length c) (hown:OwnH w lo hi a c xs)
  (sa:Option Addr) (sc:Nat) (zs:List HoldV) (hx:act.eval x=.slice sa zs.length sc) (hr:ReadsH w sa zs) (hc:sa=none→sc=0)
  (hb:xs.length+zs.length≤1099511627776) (hlo:lo≤w.heap.size)
  (h:∀ a' c' ys w',Hid (ys=xs++zs)→OwnH w' lo w'.heap.size a' c' ys→w.grownBy w' (Value.slice a xs.length c).ownBlock→wpList Tryz.prog ops Q rest (act.put o.dst (.slice a' ys.length c')) w'):
  wpList Tryz.prog ops Q (o::rest) act w:=by
 obtain ⟨i0,hi0,hz0,hz1,hz2⟩:=info_parts Tryz.infoHold
 have fin:∀ v' w',w'.ownsRow lo 113 2 v' (xs.length+zs.length) (cellsH xs++cellsH zs)→w.grownBy w' (Value.slice a xs.length c).ownBlock→wpList Tryz.prog ops Q rest (act.put o.dst v') w':=by
  intro v' w' h1 h2
  rw [← cellsH_app,← List.length_append] at h1
  have sh:∃ a' c',v'=.slice a' (xs++zs).length c':=by
   rcases h1.2 with ⟨rfl,h0⟩ | ⟨g,cap,cur,rfl,_⟩
   ·exact ⟨none,0,by rw [h0]⟩
   ·exact ⟨_,_,rfl⟩
  obtain ⟨a',c',rfl⟩:=sh
  exact h a' c' (xs++zs) w' rfl ⟨h1,Nat.le_refl _,fun k hk=>(h1.lt k hk).2⟩ h2
 cases sa with
 | none=>
  have hz:zs=[]:=by
   by_cases e:zs=[]
   ·exact e
   ·obtain ⟨b,off,hh,_⟩:=hr e
    cases hh
  subst hz
  have:=hc rfl
  subst this
  exact wpList_append_own_none hgd s x 56 ho lo 113 i0 2 Tryz.underlying56 hi0 _ _ _ hs hown.1 hx (fin _ w (by simpa [cellsH] using hown.1) (World.grownBy.refl _ _))
 | some ad=>
  refine wpList_append_own w hgd s x 56 ho lo 113 i0 (.agg #[.int .i64 0,.int .i64 0]) 2 16 Tryz.underlying56 hi0 hz0 hz1 hz2 rfl (by decide) _ _ _ hs hown.1 ad zs.length sc (cellsH zs) hx (by rw [cellsH_len]) ?_ (holds_oneCell _) (by simp only [maxLen];omega) (by omega) hlo (fun v' w' h1 h2 _=>fin v' w' h1 h2)
  intro j u hj
  have hjl:j<zs.length*2:=by rw [← cellsH_len];exact (List.getElem?_eq_some_iff.1 hj).1
  have hne:zs≠[]:=by intro e;simp [e] at hjl
  obtain ⟨b,off,hh,hcell⟩:=hr hne
  cases hh
  have hat:=cellsH_at zs (j / 2) (j % 2) (by omega) (Nat.mod_lt _ (by omega))
  rw [show j / 2*2+j % 2=j by omega,hj] at hat
  obtain ⟨k0,k1⟩:=hcell (j / 2) (by omega)
  rw [Addr_add]
  rcases (by omega:j % 2=0∨j % 2=1) with h' | h'<;>rw [h'] at hat<;>simp only [HoldV.cells,List.getElem?_cons_zero,List.getElem?_cons_succ,Option.some.injEq] at hat
  ·rw [show off+j=off+j / 2*2 by omega,k0,hat]
  ·rw [show off+j=off+j / 2*2+1 by omega,k1,hat]
end Go.Proofs.YtcoeamamaifoeaaGreatDoor