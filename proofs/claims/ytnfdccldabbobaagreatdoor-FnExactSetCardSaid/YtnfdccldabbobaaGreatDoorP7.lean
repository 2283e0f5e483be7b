/- Texts. -/
import Derived.Test.YtnfdccldabbobaaGreatDoorP3
import Derived.Test.YtnfdccldabbobaaGreatDoorP5
set_option maxHeartbeats 8000000
set_option maxRecDepth 100000
namespace Go.Proofs.YtnfdccldabbobaaGreatDoor
open Go.RowKit Go.Proofs.Tryz
def xx (r:xS):Bool:=
 inB r.lsn 1 1000000 && (qL r.bf && (qL r.af &&
  (if r.kind == 6 then kX r false false false false true && xI r.lsn r.txs
   else inB r.tx 1 1000 && (inB r.prev 0 (r.lsn-1) &&
   (if r.kind == 1 then kX r true true true false false && inB r.oid 1 31
    else if r.kind == 4 then kX r true true false true false && (inB r.oid 1 31 && inB r.next 0 (r.lsn-1))
    else if r.kind == 2 then kX r true false false false false
    else if r.kind == 3 then kX r true false false false false
    else if r.kind == 5 then kX r true false false false false
    else false)))))
theorem dL {x l m:Int} (h:inB x l m=true):l≤x∧x≤m:=by simpa [inB] using h
theorem fifteen {w:World} {B:Nat} {x0 x1 x2 x3 x4 x5 x6 x7 x8 x9 xO yA yE yQ yC:Value} {t:TypeId} (b:Box w B [x0,x1,x2,x3,x4,x5,x6,x7,x8,x9,xO,yA,yE,yQ,yC] t):
  w.cell? ⟨B,0,none⟩=some x0∧w.cell? ⟨B,1,none⟩=some x1∧w.cell? ⟨B,2,none⟩=some x2∧w.cell? ⟨B,3,none⟩=some x3∧w.cell? ⟨B,4,none⟩=some x4∧w.cell? ⟨B,5,none⟩=some x5∧w.cell? ⟨B,6,none⟩=some x6∧w.cell? ⟨B,7,none⟩=some x7∧w.cell? ⟨B,8,none⟩=some x8∧w.cell? ⟨B,9,none⟩=some x9∧w.cell? ⟨B,10,none⟩=some xO∧w.cell? ⟨B,11,none⟩=some yA∧w.cell? ⟨B,12,none⟩=some yE∧w.cell? ⟨B,13,none⟩=some yQ∧w.cell? ⟨B,14,none⟩=some yC:=
 ⟨b.cell 0 _ rfl,b.cell 1 _ rfl,b.cell 2 _ rfl,b.cell 3 _ rfl,b.cell 4 _ rfl,b.cell 5 _ rfl,b.cell 6 _ rfl,b.cell 7 _ rfl,b.cell 8 _ rfl,b.cell 9 _ rfl,b.cell 10 _ rfl,b.cell 11 _ rfl,b.cell 12 _ rfl,b.cell 13 _ rfl,b.cell 14 _ rfl⟩
theorem fB (r:ql) (w:World) (hr:r.reads w) (hl:r.short 1099511627776):
  Calls prog 145 #[.agg r.cells.toArray] w fun e w'=>e=.returned (.bool (xx r.v))∧qa w w':=by
 obtain ⟨W,hW,b0,hbW,qD⟩:=qB w r.cells 124;have HB:Hid (∀ u,qa w u→Calls _ _ _ _ _):=fun u hu=>Yg r.bf u (jd.below hr.bf hu) (fun s hs=>by obtain rfl:=qac.1 hs;exact hl.bf)
 have HA:Hid (∀ u,qa w u→Calls _ _ _ _ _):=fun u hu=>Yg r.af u (jd.below hr.af hu) (fun s hs=>by obtain rfl:=qac.1 hs;exact hl.af)
 have HC:Hid (∀ u,qa w u→Calls _ _ _ _ _):=fun u hu=>Ba r u (hr.below hu) hl
 have HS:Hid (∀ u,qa w u→Calls _ _ _ _ _):=fun u hu=>iD r u (hr.below hu) hl
 have HK:Hid (∀ u,qa w u→Calls _ _ _ _ _):=fun u hu=>RA r u (hr.below hu) hl
 have HE:Hid (∀ u,qa w u→Calls _ _ _ _ _):=fun u hu=>iE r u (hr.below hu) hl
 have HL:Hid (∀ u,qa w u→1≤r.lsn∧r.lsn≤1000000→Calls _ _ _ _ _):=fun u hu hn=>RD r u (hr.txs.below hu) hl.txs hn
 have HX:Hid (∀ u,qa W u→Box u w.heap.size r.cells 124):=fun u hu=>b0.below hu b0.lt
 have HZ:Hid (xx r.v=(inB r.lsn 1 1000000 && (qL r.bf.v && (qL r.af.v &&
  (if r.kind == 6 then kX r.v false false false false true && xI r.lsn r.txs
   else inB r.tx 1 1000 && (inB r.prev 0 (r.lsn-1) &&
   (if r.kind == 1 then kX r.v true true true false false && inB r.oid 1 31
    else if r.kind == 4 then kX r.v true true false true false && (inB r.oid 1 31 && inB r.next 0 (r.lsn-1))
    else if r.kind == 2 then kX r.v true false false false false
    else if r.kind == 3 then kX r.v true false false false false
    else if r.kind == 5 then kX r.v true false false false false
    else false)))))) ):=rfl
 generalize xx r.v=R at*
 clear qD hr hl b0;simp only [ql.cells,qj.cells] at*
 go_enter func145,ntmps145;go_wp2_with fail;rw [hW.out];clear hW;obtain ⟨x0,x1,x2,x3,x4,x5,x6,x7,x8,x9,xO,yA,yE,yQ,yC⟩:=fifteen (HX.out W (qab _ _));have BW:qa W W:=qab _ _;refine (j5 _ _ _ W).mono ?_;rintro e u ⟨rfl,hu⟩;rw [hu];clear hu u;cases h0:inB r.lsn 1 1000000 with
 | false=>
  have HR:Hid (R=false):=by rw [Hid,HZ.out];simp [h0]
  clear HZ;go_wp2;go_ret;exact ⟨qm HR.out.symm,hbW⟩
 | true=>
  have hn:=dL h0;go_wp2_with fail;refine (HB.out W hbW).mono ?_;clear x0 x1 x2 x3 x4 x5 x6 x7 x8 x9 xO yA yE yQ yC;rintro e u1 ⟨rfl,hb_u1⟩;have b_u1:qa w u1:=(hbW).trans (hb_u1.mono (hbW).size);have l_u1:qa W u1:=(BW).trans (hb_u1.mono (BW).size);obtain ⟨x0,x1,x2,x3,x4,x5,x6,x7,x8,x9,xO,yA,yE,yQ,yC⟩:=fifteen (HX.out u1 l_u1);clear hb_u1;cases h1:qL r.bf.v with
  | false=>
   have HR:Hid (R=false):=by rw [Hid,HZ.out];simp [h0,h1]
   clear HZ;go_wp2;go_ret;exact ⟨qm HR.out.symm,b_u1⟩
  | true=>
   go_wp2_with fail;refine (HA.out u1 b_u1).mono ?_;clear x0 x1 x2 x3 x4 x5 x6 x7 x8 x9 xO yA yE yQ yC;rintro e u2 ⟨rfl,hb_u2⟩;have b_u2:qa w u2:=(b_u1).trans (hb_u2.mono (b_u1).size);have l_u2:qa W u2:=(l_u1).trans (hb_u2.mono (l_u1).size);obtain ⟨x0,x1,x2,x3,x4,x5,x6,x7,x8,x9,xO,yA,yE,yQ,yC⟩:=fifteen (HX.out u2 l_u2);clear hb_u2;cases h2:qL r.af.v with
   | false=>
    have HR:Hid (R=false):=by rw [Hid,HZ.out];simp [h0,h1,h2]
    clear HZ;go_wp2;go_ret;exact ⟨qm HR.out.symm,b_u2⟩
   | true=>
    cases Q6:(r.kind == 6) with
    | true=>
     go_wp2_with fail;refine (HC.out u2 b_u2).mono ?_;clear x0 x1 x2 x3 x4 x5 x6 x7 x8 x9 xO yA yE yQ yC;rintro e u3 ⟨rfl,hb_u3⟩;have b_u3:qa w u3:=(b_u2).trans (hb_u3.mono (b_u2).size);have l_u3:qa W u3:=(l_u2).trans (hb_u3.mono (l_u2).size);obtain ⟨x0,x1,x2,x3,x4,x5,x6,x7,x8,x9,xO,yA,yE,yQ,yC⟩:=fifteen (HX.out u3 l_u3);clear hb_u3;cases h3:kX r.v false false false false true with
     | false=>
      have HR:Hid (R=false):=by rw [Hid,HZ.out];simp [h0,h1,h2,Q6,h3]
      clear HZ;go_wp2;go_ret;exact ⟨qm HR.out.symm,b_u3⟩
     | true=>
      go_wp2_with fail;refine (HL.out u3 b_u3 hn).mono ?_;clear x0 x1 x2 x3 x4 x5 x6 x7 x8 x9 xO yA yE yQ yC;rintro e u4 ⟨rfl,hb_u4⟩;have qeH:qa w u4:=(b_u3).trans (hb_u4.mono (b_u3).size);have qlC:qa W u4:=(l_u3).trans (hb_u4.mono (l_u3).size);obtain ⟨x0,x1,x2,x3,x4,x5,x6,x7,x8,x9,xO,yA,yE,yQ,yC⟩:=fifteen (HX.out u4 qlC);clear hb_u4;cases h4:xI r.lsn r.txs with
      | false=>
       have HR:Hid (R=false):=by rw [Hid,HZ.out];simp [h0,h1,h2,Q6,h3,h4]
       clear HZ;go_wp2;go_ret;exact ⟨qm HR.out.symm,qeH⟩
      | true=>
       have HR:Hid (R=true):=by rw [Hid,HZ.out];simp [h0,h1,h2,Q6,h3,h4]
       clear HZ;go_wp2;go_ret;exact ⟨qm HR.out.symm,qeH⟩
    | false=>
     go_wp2_with fail;refine (j5 _ _ _ u2).mono ?_;rintro e v ⟨rfl,hv⟩;rw [hv];clear hv v;cases h3:inB r.tx 1 1000 with
     | false=>
      have HR:Hid (R=false):=by rw [Hid,HZ.out];simp [h0,h1,h2,Q6,h3]
      clear HZ;go_wp2;go_ret;exact ⟨qm HR.out.symm,b_u2⟩
     | true=>
      go_wp2_with fail;refine (j5 _ _ _ u2).mono ?_;rintro e v ⟨rfl,hv⟩;rw [hv];clear hv v;cases h4:inB r.prev 0 (r.lsn-1) with
      | false=>
       have HR:Hid (R=false):=by rw [Hid,HZ.out];simp [h0,h1,h2,Q6,h3,h4]
       clear HZ;go_wp2;go_ret;exact ⟨qm HR.out.symm,b_u2⟩
      | true=>
       cases hk1:(r.kind == 1) with
       | true=>
        go_wp2_with fail;refine (HS.out u2 b_u2).mono ?_;clear x0 x1 x2 x3 x4 x5 x6 x7 x8 x9 xO yA yE yQ yC;rintro e u3 ⟨rfl,hb_u3⟩;have b_u3:qa w u3:=(b_u2).trans (hb_u3.mono (b_u2).size);have l_u3:qa W u3:=(l_u2).trans (hb_u3.mono (l_u2).size);obtain ⟨x0,x1,x2,x3,x4,x5,x6,x7,x8,x9,xO,yA,yE,yQ,yC⟩:=fifteen (HX.out u3 l_u3);clear hb_u3;cases h5:kX r.v true true true false false with
        | false=>
         have HR:Hid (R=false):=by rw [Hid,HZ.out];simp [h0,h1,h2,Q6,h3,h4,hk1,h5]
         clear HZ;go_wp2;go_ret;exact ⟨qm HR.out.symm,b_u3⟩
        | true=>
         go_wp2_with fail;refine (j5 _ _ _ u3).mono ?_;rintro e v ⟨rfl,hv⟩;rw [hv];clear hv v;cases h6:inB r.oid 1 31 with
         | false=>
          have HR:Hid (R=false):=by rw [Hid,HZ.out];simp [h0,h1,h2,Q6,h3,h4,hk1,h5,h6]
          clear HZ;go_wp2;go_ret;exact ⟨qm HR.out.symm,b_u3⟩
         | true=>
          have HR:Hid (R=true):=by rw [Hid,HZ.out];simp [h0,h1,h2,Q6,h3,h4,hk1,h5,h6]
          clear HZ;go_wp2;go_ret;exact ⟨qm HR.out.symm,b_u3⟩
       | false=>
        cases hk4:(r.kind == 4) with
        | true=>
         go_wp2_with fail;refine (HK.out u2 b_u2).mono ?_;clear x0 x1 x2 x3 x4 x5 x6 x7 x8 x9 xO yA yE yQ yC;rintro e u3 ⟨rfl,hb_u3⟩;have b_u3:qa w u3:=(b_u2).trans (hb_u3.mono (b_u2).size);have l_u3:qa W u3:=(l_u2).trans (hb_u3.mono (l_u2).size);obtain ⟨x0,x1,x2,x3,x4,x5,x6,x7,x8,x9,xO,yA,yE,yQ,yC⟩:=fifteen (HX.out u3 l_u3);clear hb_u3;cases h5:kX r.v true true false true false with
         | false=>
          have HR:Hid (R=false):=by rw [Hid,HZ.out];simp [h0,h1,h2,Q6,h3,h4,hk1,hk4,h5]
          clear HZ;go_wp2;go_ret;exact ⟨qm HR.out.symm,b_u3⟩
         | true=>
          go_wp2_with fail;refine (j5 _ _ _ u3).mono ?_;rintro e v ⟨rfl,hv⟩;rw [hv];clear hv v;cases h6:inB r.oid 1 31 with
          | false=>
           have HR:Hid (R=false):=by rw [Hid,HZ.out];simp [h0,h1,h2,Q6,h3,h4,hk1,hk4,h5,h6]
           clear HZ;go_wp2;go_ret;exact ⟨qm HR.out.symm,b_u3⟩
          | true=>
           go_wp2_with fail;refine (j5 _ _ _ u3).mono ?_;rintro e v ⟨rfl,hv⟩;rw [hv];clear hv v;cases h7:inB r.next 0 (r.lsn-1) with
           | false=>
            have HR:Hid (R=false):=by rw [Hid,HZ.out];simp [h0,h1,h2,Q6,h3,h4,hk1,hk4,h5,h6,h7]
            clear HZ;go_wp2;go_ret;exact ⟨qm HR.out.symm,b_u3⟩
           | true=>
            have HR:Hid (R=true):=by rw [Hid,HZ.out];simp [h0,h1,h2,Q6,h3,h4,hk1,hk4,h5,h6,h7]
            clear HZ;go_wp2;go_ret;exact ⟨qm HR.out.symm,b_u3⟩
        | false=>
         cases hk2:(r.kind == 2) with
         | true=>
          go_wp2_with fail;refine (HE.out u2 b_u2).mono ?_;clear x0 x1 x2 x3 x4 x5 x6 x7 x8 x9 xO yA yE yQ yC;rintro e u3 ⟨rfl,hb_u3⟩;have b_u3:qa w u3:=(b_u2).trans (hb_u3.mono (b_u2).size);have l_u3:qa W u3:=(l_u2).trans (hb_u3.mono (l_u2).size);obtain ⟨x0,x1,x2,x3,x4,x5,x6,x7,x8,x9,xO,yA,yE,yQ,yC⟩:=fifteen (HX.out u3 l_u3);clear hb_u3;cases h5:kX r.v true false false false false with
          | false=>
           have HR:Hid (R=false):=by rw [Hid,HZ.out];simp [h0,h1,h2,Q6,h3,h4,hk1,hk4,hk2,h5]
           clear HZ;go_wp2;go_ret;exact ⟨qm HR.out.symm,b_u3⟩
          | true=>
           have HR:Hid (R=true):=by rw [Hid,HZ.out];simp [h0,h1,h2,Q6,h3,h4,hk1,hk4,hk2,h5]
           clear HZ;go_wp2;go_ret;exact ⟨qm HR.out.symm,b_u3⟩
         | false=>
          cases hk3:(r.kind == 3) with
          | true=>
           go_wp2_with fail;refine (HE.out u2 b_u2).mono ?_;clear x0 x1 x2 x3 x4 x5 x6 x7 x8 x9 xO yA yE yQ yC;rintro e u3 ⟨rfl,hb_u3⟩;have b_u3:qa w u3:=(b_u2).trans (hb_u3.mono (b_u2).size);have l_u3:qa W u3:=(l_u2).trans (hb_u3.mono (l_u2).size);obtain ⟨x0,x1,x2,x3,x4,x5,x6,x7,x8,x9,xO,yA,yE,yQ,yC⟩:=fifteen (HX.out u3 l_u3);clear hb_u3;cases h5:kX r.v true false false false false with
           | false=>
            have HR:Hid (R=false):=by rw [Hid,HZ.out];simp [h0,h1,h2,Q6,h3,h4,hk1,hk4,hk2,hk3,h5]
            clear HZ;go_wp2;go_ret;exact ⟨qm HR.out.symm,b_u3⟩
           | true=>
            have HR:Hid (R=true):=by rw [Hid,HZ.out];simp [h0,h1,h2,Q6,h3,h4,hk1,hk4,hk2,hk3,h5]
            clear HZ;go_wp2;go_ret;exact ⟨qm HR.out.symm,b_u3⟩
          | false=>
           cases hk5:(r.kind == 5) with
           | true=>
            go_wp2_with fail;refine (HE.out u2 b_u2).mono ?_;clear x0 x1 x2 x3 x4 x5 x6 x7 x8 x9 xO yA yE yQ yC;rintro e u3 ⟨rfl,hb_u3⟩;have b_u3:qa w u3:=(b_u2).trans (hb_u3.mono (b_u2).size);have l_u3:qa W u3:=(l_u2).trans (hb_u3.mono (l_u2).size);obtain ⟨x0,x1,x2,x3,x4,x5,x6,x7,x8,x9,xO,yA,yE,yQ,yC⟩:=fifteen (HX.out u3 l_u3);clear hb_u3;cases h5:kX r.v true false false false false with
            | false=>
             have HR:Hid (R=false):=by rw [Hid,HZ.out];simp [h0,h1,h2,Q6,h3,h4,hk1,hk4,hk2,hk3,hk5,h5]
             clear HZ;go_wp2;go_ret;exact ⟨qm HR.out.symm,b_u3⟩
            | true=>
             have HR:Hid (R=true):=by rw [Hid,HZ.out];simp [h0,h1,h2,Q6,h3,h4,hk1,hk4,hk2,hk3,hk5,h5]
             clear HZ;go_wp2;go_ret;exact ⟨qm HR.out.symm,b_u3⟩
           | false=>
            have HR:Hid (R=false):=by rw [Hid,HZ.out];simp [h0,h1,h2,Q6,h3,h4,hk1,hk4,hk2,hk3,hk5]
            clear HZ;go_wp2;go_ret;exact ⟨qm HR.out.symm,b_u2⟩
theorem qdN {r:xS} (h:xx r=true):r.txs.length≤20:=by
 unfold xx at h;simp only [qam] at h;have h4:=h.2.2.2;by_cases h6:r.kind == 6
 ·rw [qan h6] at h4;simp [xI] at h4;exact h4.2.2
 ·rw [qa2 h6] at h4;have h5:=(qam _ _▸(qam _ _▸h4).2).2;have hz:∀ a b c d,kX r a b c d false=true→r.txs.length≤20:=by
   intro a b c d hz;simp only [kX,qam,qf5,qcB] at hz;omega
  split at h5
  ·exact hz _ _ _ _ (qam _ _▸h5).1
  ·split at h5
   ·exact hz _ _ _ _ (qam _ _▸h5).1
   ·split at h5
    ·exact hz _ _ _ _ h5
    ·split at h5
     ·exact hz _ _ _ _ h5
     ·split at h5
      ·exact hz _ _ _ _ h5
      ·exact absurd h5 (by decide)
theorem Ig {lsn:Int} {ls:List qM} {k:Nat} (h:yS lsn ls k=true):(1≤(ls.getD k qz).tx∧(ls.getD k qz).tx≤1000)∧(1≤(ls.getD k qz).last∧(ls.getD k qz).last<lsn):=by
 cases k with
 | zero=>simp only [yS,inB,qam,qcB] at h;omega
 | succ k=>simp only [yS,inB,qam,qcB] at h;omega
theorem Ih {lsn:Int} {ls:List qM} (h:xI lsn ls=true):ls.length≤20∧∀ t∈ls,(1≤t.tx∧t.tx≤1000)∧(1≤t.last∧t.last<lsn):=by
 simp only [xI,qam,qdt,qds,qcB] at h;refine ⟨h.2,fun t ht=>?_⟩;obtain ⟨k,hk,e⟩:=qfa ht;have:=Ig (h.1 k hk);rw [show ls.getD k qz=t by simp [List.getD,hk,e]] at this;exact this
structure Bd (r:xS):Prop where
 lsn:1≤r.lsn∧r.lsn≤1000000
 bf:qL r.bf=true
 af:qL r.af=true
 tx:0≤r.tx∧r.tx≤1000
 prev:0≤r.prev∧r.prev<r.lsn
 kind:1≤r.kind∧r.kind≤6
 oid:0≤r.oid∧r.oid≤31
 next:0≤r.next∧r.next<r.lsn
 txs:r.txs.length≤20
 each:∀ t∈r.txs,(1≤t.tx∧t.tx≤1000)∧(1≤t.last∧t.last<r.lsn)
theorem GU {P:Prop} (h:P:=by
 simp only [kX,qam,qf5,Bool.true_or,qcB,qfu] at hz hk;exact ⟨h1,h2,h3,by omega,by omega,by omega,by omega,by omega,h20,he⟩):P:=h
theorem Ii {r:xS} (h:xx r=true):Bd r:=by
 have h20:=qdN h;unfold xx at h;simp only [qam] at h;obtain ⟨h1,h2,h3,h4⟩:=h;simp only [inB,qcB] at h1;have hno:∀ a b c d,kX r a b c d false=true→∀ t∈r.txs,(1≤t.tx∧t.tx≤1000)∧(1≤t.last∧t.last<r.lsn):=by
  intro a b c d hz t ht;simp only [kX,qam,qf5,qcB] at hz;have:=qcI.1 hz.2;rw [this] at ht;cases ht
 split at h4
 ·rename_i hk
  simp only [qam] at h4;obtain ⟨hz,hl⟩:=h4;obtain ⟨_,he⟩:=Ih hl;exact GU
 ·simp only [qam,inB,qcB] at h4;obtain ⟨h5,h6,h7⟩:=h4;split at h7
  ·rename_i hk
   simp only [qam,qcB] at h7;obtain ⟨hz,ho⟩:=h7;have he:=hno _ _ _ _ hz;exact GU
  ·split at h7
   ·rename_i hk
    simp only [qam,qcB] at h7;obtain ⟨hz,ho,hx⟩:=h7;have he:=hno _ _ _ _ hz;simp only [qfu] at hk;exact ⟨h1,h2,h3,by omega,by omega,by omega,by omega,by omega,h20,he⟩
   ·have fin:kX r true false false false false=true→(1≤r.kind∧r.kind≤6)→Bd r:=fun hz hk=>by
     have he:=hno _ _ _ _ hz;simp only [kX,qam,qf5,Bool.true_or,qcB] at hz;exact ⟨h1,h2,h3,by omega,by omega,by omega,by omega,by omega,h20,he⟩
    split at h7
    ·rename_i hk;exact fin h7 (by simp only [qfu] at hk;omega)
    ·split at h7
     ·rename_i hk;exact fin h7 (by simp only [qfu] at hk;omega)
     ·split at h7
      ·rename_i hk;exact fin h7 (by simp only [qfu] at hk;omega)
      ·cases h7
def stR (zs:List Int):Nat→Int × Bool
 | 0=>(0,false)
 | k+1=>(yL zs (stR zs k)).2
def sB (zs:List Int):qO × (Int × Bool):=GV zs (stR zs 6)
def sA (zs:List Int):qO × (Int × Bool):=GV zs (sB zs).2
def sN (zs:List Int):Int × (Int × Bool):=yL zs (sA zs).2
def UX:xS:=⟨0,0,0,0,0,XZ,XZ,0,[]⟩
end Go.Proofs.YtnfdccldabbobaaGreatDoor
