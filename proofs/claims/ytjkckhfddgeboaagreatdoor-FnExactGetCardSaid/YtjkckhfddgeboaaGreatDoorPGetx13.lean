/- Several texts in one, in their order. -/
import Derived.Test.YtjkckhfddgeboaaGreatDoorPGetx12
import Derived.Deep.RegionHeld3
import Derived.Test.YtjkckhfddgeboaaGreatDoorPGetx10
import Derived.Test.YtjkckhfddgeboaaGreatDoorPGetx5
import Derived.RangeFuncNested
import Derived.RangeFuncBound
import Derived.RangeFuncCalls
import Derived.RangeFuncLeaves
import Derived.Shelf.Abstract
import Derived.Shelf.RegionOpen
import Derived.WalkKit
import Derived.OwnWalkIn
import Derived.TacticsInMore
import Derived.LoopNIn
import Derived.LoopIn
import Derived.Test.YtjkckhfddgeboaaGreatDoorPGetx1
import Derived.Deep.MidRow
import Derived.Sort.CutIn
import Derived.Test.YtjkckhfddgeboaaGreatDoorPGetx4
import Derived.Test.YtjkckhfddgeboaaGreatDoorPGetx7
set_option maxHeartbeats 8000000
set_option maxRecDepth 100000
namespace Go.Proofs.YtjkckhfddgeboaaGreatDoor
open Go.RowKit
theorem Ea {n:Int} {vs:List jy} (h:inB n 0 1000000=false):ze n vs=false:=by simp [ze,h]
theorem iD {n:Int} {ss:List qf} {c0 c1 c2 c3:Bool} (h:inB n 0 1000000=true) (hb:ss.map (fun s=>qE s.v)=[c0,c1,c2,c3]):ze n (ss.map (·.v))=(c0 && (c1 && (c2 && c3))):=by
 have e:(ss.map (·.v)).map qE=[c0,c1,c2,c3]:=by rw [List.map_map];exact hb
 have e2:∀ vs:List jy,vs.all qE=(vs.map qE).all id:=fun vs=>by induction vs with
  | nil=>rfl
  | cons v r ih=>rw [List.all_cons,List.map_cons,List.all_cons,← ih];rfl
 rw [ze,h,Bool.and_true,e2,e];simp
theorem Eb (c0 c1 c2 c3:Bool) (w:World):(Op.equalIn 10000 269 (.agg #[.bool c0,.bool c1,.bool c2,.bool c3]) (.agg #[.bool true,.bool true,.bool true,.bool true])).run Tryz.prog w=.ok (c0 && (c1 && (c2 && c3))) w:=by
 cases c0<;>cases c1<;>cases c2<;>cases c3<;>kernel_rfl
theorem JS (p:qw) (h4:p.ss.length=4) (w:World) (hg:kK w) (hr:jK w p.ss) (hl:Fit p.ss):
  Calls Tryz.prog 159 #[.agg p.cells.toArray] w fun e w'=>e=.returned (.bool (ze p.lsn (p.ss.map (·.v))))∧Below w.heap.size w w':=by
 obtain ⟨W,hW,b0,b1,hbW,qp⟩:=jf w p.cells [.bool true,.bool true,.bool true,.bool true] 31 269;have hc0:∀ w',Below W.heap.size W w'→w'.cell? ⟨w.heap.size,0,none⟩=some (.int .i64 p.lsn):=fun w' hh=>(b0.below hh b0.lt).cell 0 _ rfl
 have hw0:=hc0 W (Below.refl _ _);cases hin:inB p.lsn 0 1000000 with
 | false=>
  have HF:Hid (ze p.lsn (p.ss.map (·.v))=false):=Ea hin;have hz:=V8 hin;clear hin hc0;generalize ze p.lsn (p.ss.map (·.v))=R at*
  generalize p.lsn=n at*
  rcases hz with h1 | ⟨h1,h2⟩
  ·have h1':decide ((0:Int)≤n)=false:=decide_eq_false (by omega);clear h1;go_enter Tryz.func159,Tryz.ntmps159;go_wp2_with fail;rw [hW.out]
   go_quiet (fail)
   go_wp2;go_ret;exact ⟨qd HF.out.symm,below_drewN hbW _⟩
  ·have h1':decide ((0:Int)≤n)=true:=decide_eq_true (by omega);have h2':decide (n≤1000000)=false:=decide_eq_false (by omega);clear h1 h2;go_enter Tryz.func159,Tryz.ntmps159;go_wp2_with fail;rw [hW.out]
   go_quiet (fail)
   go_wp2;go_ret;exact ⟨qd HF.out.symm,below_drewN hbW _⟩
 | true=>
  obtain ⟨h1,h2⟩:=Wq hin;have h1':(0:Int)≤p.lsn:=by omega
  have h2':p.lsn≤1000000:=by omega
  have Te:Hid (_=_):=hin;have wQ:Hid (∀ w',Below W.heap.size W w'→w'.rangeAt w.heap.size 0 p.cells):=fun w' hh=>Box.range [] p.cells [] (by simpa using b0.below hh b0.lt)
  have Aa:Hid (∀ w',Below W.heap.size W w'→w'.rangeAt (w.heap.size+1) 0 [.bool true,.bool true,.bool true,.bool true]):=fun w' hh=>Box.range [] [.bool true,.bool true,.bool true,.bool true] [] (by simpa using b1.below hh b1.lt)
  have HI:Hid ((Tryz.prog.info? 31).map (·.size)=some p.cells.length):=by rw [Hid,jo p h4];kernel_rfl
  clear hin h1 h2;go_enter Tryz.func159,Tryz.ntmps159;go_wp2_with fail;rw [hW.out];refine wp_region_held_drew (S:=fun w'=>w'.cell? ⟨w.heap.size,0,none⟩=some (.int .i64 p.lsn)∧w'.rangeAt w.heap.size 0 p.cells∧w'.rangeAt (w.heap.size+1) 0 [.bool true,.bool true,.bool true,.bool true]) (by kernel_rfl) ?_ (fun hHeld=>?_)
  ·exact ⟨hc0 _ (Below.refl _ _).drew,wQ.out _ (Below.refl _ _).drew,Aa.out _ (Below.refl _ _).drew⟩
  have hd1:decide ((0:Int)≤p.lsn)=true:=decide_eq_true h1';have hd2:decide (p.lsn≤1000000)=true:=decide_eq_true h2';refine tk 0 (v:=.pointer (some ⟨w.heap.size,0,none⟩)) rfl (Or.inl ⟨by rfl,fun w' hw'=>?_⟩) hHeld ?_
  ·go_simp
  go_simp;refine tk 1 (v:=.int .i64 p.lsn) rfl (Or.inl ⟨by rfl,fun w' hw'=>?_⟩) hHeld ?_
  ·have q:=hw'.1;go_simp
  go_simp;refine tk 2 (v:=.bool true) rfl (Or.inl ⟨by rfl,fun w' hw'=>?_⟩) hHeld ?_
  ·go_simp
  go_simp;refine tk 3 (v:=.bool true) rfl (Or.inl ⟨by rfl,fun w' hw'=>?_⟩) hHeld ?_
  ·go_simp
  go_simp;refine tk 4 (v:=.pointer (some ⟨w.heap.size,0,none⟩)) rfl (Or.inl ⟨by rfl,fun w' hw'=>?_⟩) hHeld ?_
  ·go_simp
  go_simp;refine tk 5 (v:=.int .i64 p.lsn) rfl (Or.inl ⟨by rfl,fun w' hw'=>?_⟩) hHeld ?_
  ·have q:=hw'.1;go_simp
  go_simp;refine tk 6 (v:=.bool true) rfl (Or.inl ⟨by rfl,fun w' hw'=>?_⟩) hHeld ?_
  ·go_simp
  go_simp;refine tk 7 (v:=.bool true) rfl (Or.inl ⟨by rfl,fun w' hw'=>?_⟩) hHeld ?_
  ·go_simp
  go_simp;refine tk 8 (v:=.bool true) rfl (Or.inl ⟨by rfl,fun w' hw'=>?_⟩) hHeld ?_
  ·go_simp
  go_simp;refine tk 9 rfl (yieldsIf_load_mid (by rfl) _ _ rfl _ _ rfl p.cells _ (fun _ h=>h.2.1) Tryz.underlying31 rfl HI.out) hHeld ?_;go_simp;refine tk 11 rfl (yieldsIf_load_mid (by rfl) _ _ rfl _ _ rfl [.bool true,.bool true,.bool true,.bool true] _ (fun _ h=>h.2.2) Tryz.underlying269 rfl (by kernel_rfl)) hHeld ?_;go_simp;refine wpAnyH_ready (rs:=[10]) (by kernel_rfl) (by simp) ?_;refine AllReadyH.cons rfl (fun K hK=>?_) AllReadyH.nil;go_simp;refine (Pe p h4 _ (hg.keep hbW.drew) (hr.below hbW.drew) hl).mono ?_;rintro e w2 ⟨⟨c0,c1,c2,c3,rfl,hcs⟩,hb2⟩;have B2:Below W.heap.size W w2:=((Below.refl _ _).drew).trans hb2;have HR:Hid (_=_):=iD Te.out hcs;clear hcs;refine hK.out _ _ ⟨hc0 _ B2,wQ.out _ B2,Aa.out _ B2⟩ (fun hHeld=>?_);clear hK K;refine tk 12 (v:=.bool (c0 && (c1 && (c2 && c3)))) rfl (Or.inl ⟨by rfl,fun w' hw'=>?_⟩) hHeld ?_
  ·have q:=Eb c0 c1 c2 c3 w';go_simp
  go_simp;generalize (c0 && (c1 && (c2 && c3)))=D at*
  refine tk 13 (v:=.bool D) rfl (Or.inl ⟨by rfl,fun w' hw'=>?_⟩) hHeld ?_
  ·go_simp
  go_simp;refine tk 14 (v:=.bool D) rfl (Or.inl ⟨by rfl,fun w' hw'=>?_⟩) hHeld ?_
  ·go_simp
  go_simp;refine wpAnyH_done (by kernel_rfl) ?_ _;go_wp2;go_ret;exact ⟨qd HR.out.symm,hbW.trans (B2.mono hbW.size)⟩
theorem wP (p:qi) (no:Int) (w:World) (hr:p.reads w) (hl:p.short 1099511627776):
  Calls Tryz.prog 157 #[.agg p.cells.toArray,.int .i64 no] w fun r w'=>r=.returned (.int .i64 (qy p.v.seats no))∧Below w.heap.size w w':=by
 obtain ⟨ls,hand,a,c⟩:=p;have hlen:=hl.len;simp only [qi.cells,qi.reads,qi.v] at*
 obtain ⟨W,hW,b0,hbW,qp⟩:=qx w [.slice a ls.length c,.int .i64 hand] 35;have HR:Hid (∀ u,Below W.heap.size W u→j3 u a ls):=fun u hu=>hr.below (hbW.trans (hu.mono hbW.size))
 have HF:Hid (jJ no ((ls.map qb.v).drop 0) 0=qy (ls.map qb.v) no):=rfl;have HJ:Hid ((Tryz.prog.info? 167).map (·.size)=some 20):=by rw [Hid];kernel_rfl
 generalize qy (ls.map qb.v) no=R at*
 clear qp hr hl;have x0:=b0.cell 0 _ rfl;go_enter Tryz.func157,Tryz.ntmps157;go_upto_region 1 with fail;rw [hW.out];clear hW;go_wp2_with fail;clear x0 b0;go_loopw [10] (fun i wr=>∃ (k:Nat),i=.int .i64 k∧k≤ls.length∧Hid (jJ no ((ls.map qb.v).drop k) k=R)∧Below W.heap.size W wr)
  (fun i _=>ls.length-(intOf i).toNat)
 case atStart=>exact ⟨0,rfl,by omega,HF,Below.refl _ _⟩
 case round=>
  obtain ⟨k,rfl,hk,hR,hbl⟩:=hrel;have hrr:=HR.out wr hbl;have Jv:Below w.heap.size w wr:=hbW.trans (hbl.mono hbW.size);by_cases hlt:k<ls.length
  ·obtain ⟨b,off,rfl,hcell⟩:=hrr (by rintro rfl;simp at hlt);have wQ:Hid (wr.rangeAt b (off+k*20) (ls.getD k qc).cells):=(hcell k hlt).1;clear hcell;have hkk:(k:Int)<(ls.length:Int):=by omega
   have hi0:(0:Int)≤(k:Int):=by omega
   have HR2:Hid ((if (ls.getD k qc).no=no then (k:Int) else jJ no ((ls.map qb.v).drop (k+1)) (k+1))=R):=by
    have h:=hR.out;rw [Gm ls k hlt,jJ] at h;exact h
   generalize ls.getD k qc=z at*
   obtain ⟨W1,hW1,b1,hb1,hs1⟩:=qx wr [.int .i64 0,.int .i64 0,.bool false,.int .i64 0,.slice none 0 0,.slice none 0 0,.bool false,.int .i64 0,.slice none 0 0,.slice none 0 0,.bool false,.int .i64 0,.slice none 0 0,.slice none 0 0,.bool false,.int .i64 0,.slice none 0 0,.slice none 0 0,.bool false,.bool false] 167;obtain ⟨W2,hW2,hw2,hs2,HT2,_,b2⟩:=kg z _ rfl b1;have hB2:Below W.heap.size W W2:=(hbl.trans (hb1.mono hbl.size)).trans (hw2.below hbl.size (by have:=hbl.size;omega));have Wy:Below w.heap.size w W2:=hbW.trans (hB2.mono hbW.size);have x0:W2.cell? ⟨wr.heap.size,0,none⟩=some (.int .i64 z.no):=b2.cell 0 _ rfl;have HW2:Hid (W1.setCells wr.heap.size 0 z.cells.toArray.toList=W2):=hW2.out;have Vo:=ko z;clear hs1 hs2 b1 b2 hb1 hw2 hW2 hR hbl Jv;by_cases hq:z.no=no
   ·have HR3:Hid ((k:Int)=R):=by have h:=HR2.out;rw [if_pos hq] at h;exact h
    have xB:(z.no == no)=true:=by simpa using hq
    clear hq HR2;go_wp2_with (first | (guard_target=wpList _ _ _ (Oper.mk (some 14) _ _ _ _ _::_) _ _;refine wpList_load_mid rfl 167 (.tmp 13) rfl b (off+k*20) rfl z.cells _ wQ.out Tryz.underlying167 rfl HJ.out ?_) | (guard_target=wpList _ _ _ (Oper.mk none (Op.store _ (Operand.tmp 6) _) _ _ _ _::_) _ _;refine wpList_store_mid rfl 167 (.tmp 6) (.tmp 14) rfl wr.heap.size 0 z.cells.toArray rfl rfl (by rw [hW1.out];exact HT2.out) HJ.out Vo ?_;rw [hW1.out,HW2.out]) | fail);go_ret;exact ⟨ja HR3.out,Wy⟩
   ·have HR3:Hid (jJ no ((ls.map qb.v).drop (k+1)) (k+1)=R):=by have h:=HR2.out;rw [if_neg hq] at h;exact h
    have xB:(z.no == no)=false:=by simpa using hq
    clear hq HR2;go_wp2_with (first | (guard_target=wpList _ _ _ (Oper.mk (some 14) _ _ _ _ _::_) _ _;refine wpList_load_mid rfl 167 (.tmp 13) rfl b (off+k*20) rfl z.cells _ wQ.out Tryz.underlying167 rfl HJ.out ?_) | (guard_target=wpList _ _ _ (Oper.mk none (Op.store _ (Operand.tmp 6) _) _ _ _ _::_) _ _;refine wpList_store_mid rfl 167 (.tmp 6) (.tmp 14) rfl wr.heap.size 0 z.cells.toArray rfl rfl (by rw [hW1.out];exact HT2.out) HJ.out Vo ?_;rw [hW1.out,HW2.out]) | fail);go_roundw
    case rel=>exact ⟨k+1,by go_num,by omega,HR3,hB2⟩
    case measure=>simp [intOf];omega
  ·have hkk:¬ (k:Int)<(ls.length:Int):=by omega
   have M4:Hid (-1=R):=by
    have h:=hR.out;rw [List.drop_eq_nil_of_le (by rw [List.length_map];omega),jJ] at h;exact h
   clear hR;go_wp2;go_ret;exact ⟨ja M4.out,Jv⟩
theorem VM (no:Int) (w:World):Calls Tryz.prog 158 #[.int .i64 no] w fun e w'=>e=.returned (.bool (inB no 0 7))∧w'=w:=by
 by_cases h1:0≤no
 ·by_cases h2:no<8
  ·have HB:Hid (inB no 0 7=true):=by simp [Hid,inB];omega
   go_enter Tryz.func158,Tryz.ntmps158;go_wp2;go_ret;exact ⟨qd HB.out.symm,rfl⟩
  ·have HB:Hid (inB no 0 7=false):=by simp [Hid,inB];omega
   go_enter Tryz.func158,Tryz.ntmps158;go_wp2;go_ret;exact ⟨qd HB.out.symm,rfl⟩
 ·have HB:Hid (inB no 0 7=false):=by simp [Hid,inB];omega
  go_enter Tryz.func158,Tryz.ntmps158;go_wp2;go_ret;exact ⟨qd HB.out.symm,rfl⟩
theorem fT (p:qi) (k:Nat):yV p.v.seats k=(inB (p.seats.getD k qc).no 0 7 && ze (p.seats.getD k qc).lsn ((p.seats.getD k qc).ss.map (·.v)) && decide (qy p.v.seats (p.seats.getD k qc).no=k)):=by
 rw [yV,qi.v,jZ];rfl
theorem J2 (p:qi) (w:World) (hg:kK w) (hr:p.reads w) (hl:p.short 1099511627776):
  Calls Tryz.prog 61 #[.agg p.cells.toArray] w fun e w'=>e=.returned (.bool (jg p.v))∧Below w.heap.size w w':=by
 have HLEN:Hid (¬ p.seats.length≤3→jg p.v=false):=fun h=>UY (by simpa [qi.v] using h)
 have JF:Hid (inB p.hand 0 2=false→jg p.v=false):=fun h=>UZ h
 have jP:Hid (∀ k,k<p.seats.length→(inB (p.seats.getD k qc).no 0 7 && ze (p.seats.getD k qc).lsn ((p.seats.getD k qc).ss.map (·.v)) && decide (qy p.v.seats (p.seats.getD k qc).no=k))=false→jg p.v=false):=fun k hk h=>Uc k (by simpa [qi.v] using hk) (by rw [fT];exact h)
 have xP:Hid (p.seats.length≤3→inB p.hand 0 2=true→(∀ k,k<p.seats.length→(inB (p.seats.getD k qc).no 0 7 && ze (p.seats.getD k qc).lsn ((p.seats.getD k qc).ss.map (·.v)) && decide (qy p.v.seats (p.seats.getD k qc).no=k))=true)→jg p.v=true):=fun h0 h1 h=>mX (by simpa [qi.v] using h0) h1 (fun k hk=>by rw [fT];exact h k (by simpa [qi.v] using hk))
 have HST:Hid (∀ no u,Below w.heap.size w u→Calls Tryz.prog 157 #[.agg p.cells.toArray,.int .i64 no] u fun r w'=>r=.returned (.int .i64 (qy p.v.seats no))∧Below u.heap.size u w'):=fun no u hu=>wP p no u (hr.below hu) hl
 generalize jg p.v=R at*
 generalize qy p.v.seats=SD at*
 have HS:Hid (∀ k,k<p.seats.length→(p.seats.getD k qc).short 1099511627776):=fun k hk=>hl.at k hk
 have hlen:=hl.len;obtain ⟨rs,s,a,c⟩:=p;simp only [qi.reads,qi.cells] at*
 obtain ⟨W,hW,b0,hbW,qp⟩:=qx w [.slice a rs.length c,.int .i64 s] 35;have c0:=b0.cell 0 _ rfl;have c1:=b0.cell 1 _ rfl;have HJ:Hid ((Tryz.prog.info? 167).map (·.size)=some 20):=by rw [Hid];kernel_rfl
 clear hl qp;have HC:Hid (∀ k,k<rs.length→∃ b off,a=some ⟨b,off,none⟩∧W.rangeAt b (off+k*20) (rs.getD k qc).cells∧(rs.getD k qc).reads W):=fun k hk=>by
  obtain ⟨b,off,ha,hc⟩:=(j3.below hr hbW) (by intro e;rw [e] at hk;simp at hk);exact ⟨b,off,ha,(hc k hk).1,(hc k hk).2⟩
 clear hr;by_cases h4:rs.length≤3
 case neg=>
  have HR:Hid (R=false):=HLEN.out h4;clear HLEN JF jP xP;go_enter Tryz.func61,Tryz.ntmps61;go_wp2_with fail;rw [hW.out];go_ret;exact ⟨qd HR.out.symm,hbW⟩
 case pos=>
  by_cases h5:s<0
  ·have HR:Hid (R=false):=JF.out (by simp [inB];omega);clear HLEN JF jP xP;go_enter Tryz.func61,Tryz.ntmps61;go_upto_region 1 with fail;rw [hW.out];go_wp2_with fail;go_ret;exact ⟨qd HR.out.symm,hbW⟩
  by_cases h6:s<3
  case neg=>
   have HR:Hid (R=false):=JF.out (by simp [inB];omega);clear HLEN JF jP xP;have Vj:3≤s:=by omega
   go_enter Tryz.func61,Tryz.ntmps61;go_upto_region 1 with fail;rw [hW.out];go_wp2_with fail;go_ret;exact ⟨qd HR.out.symm,hbW⟩
  case pos=>
   have mY:=xP.out h4 (by simp [inB];omega);have mZ:Hid _:=mY;clear mY xP HLEN JF;go_enter Tryz.func61,Tryz.ntmps61;go_upto_region 1 with fail;rw [hW.out];clear hW;go_wp2_with fail;go_loopw [22] (fun i wr=>∃ k:Nat,k≤rs.length∧i=.int .i64 k∧Hid (∀ m,m<k→(inB (rs.getD m qc).no 0 7 && ze (rs.getD m qc).lsn ((rs.getD m qc).ss.map (·.v)) && decide (SD (rs.getD m qc).no=m))=true)∧Below W.heap.size W wr) (fun i _=>rs.length-(intOf i).toNat)
   case atStart=>exact ⟨0,Nat.zero_le _,rfl,fun j hj=>by omega,Below.refl _ _⟩
   case round=>
    obtain ⟨k,hk,rfl,hall,hbl⟩:=hrel;have ve:Below w.heap.size w wr:=hbW.trans (hbl.mono hbW.size);have HP:Hid (∀ u,Below W.heap.size W u→u.cell? ⟨w.heap.size,0,none⟩=some (.slice a rs.length c)∧u.cell? ⟨w.heap.size,1,none⟩=some (.int .i64 s)):=fun u hu=>⟨(hu.cell (block_lt c0)).trans c0,(hu.cell (block_lt c1)).trans c1⟩
    clear c0 c1;by_cases hlt:k<rs.length
    ·obtain ⟨b,off,rfl,hcell,hrd⟩:=HC.out k hlt;have wQ:Hid (wr.rangeAt b (off+k*20) (rs.getD k qc).cells):=uF hcell hbl;have MB:=hrd.below hbl;have hsh:=HS.out k hlt;have HN:Hid ((inB (rs.getD k qc).no 0 7 && ze (rs.getD k qc).lsn ((rs.getD k qc).ss.map (·.v)) && decide (SD (rs.getD k qc).no=k))=false→R=false):=jP.out k hlt;have HY:Hid ((inB (rs.getD k qc).no 0 7 && ze (rs.getD k qc).lsn ((rs.getD k qc).ss.map (·.v)) && decide (SD (rs.getD k qc).no=k))=true→∀ m,m<k+1→(inB (rs.getD m qc).no 0 7 && ze (rs.getD m qc).lsn ((rs.getD m qc).ss.map (·.v)) && decide (SD (rs.getD m qc).no=m))=true):=fun h m hm=>by
      by_cases e:m=k
      ·rw [e];exact h
      ·exact hall.out m (by omega)
     have hkk:(k:Int)<(rs.length:Int):=by omega
     have hk0:(0:Int)≤(k:Int):=by omega
     clear hcell HC jP hall HS hrd;generalize rs.getD k qc=y at*
     obtain ⟨W1,hW1,b1,hb1,hs1⟩:=qx wr [.int .i64 0,.int .i64 0,.bool false,.int .i64 0,.slice none 0 0,.slice none 0 0,.bool false,.int .i64 0,.slice none 0 0,.slice none 0 0,.bool false,.int .i64 0,.slice none 0 0,.slice none 0 0,.bool false,.int .i64 0,.slice none 0 0,.slice none 0 0,.bool false,.bool false] 167;obtain ⟨W2,hW2,hw2,hs2,HT2,_,b2⟩:=kg y _ rfl b1;have hB2':Below wr.heap.size wr W2:=hb1.trans (hw2.below (Nat.le_refl _) (by omega));have hB2:Below W.heap.size W W2:=hbl.trans (hB2'.mono hbl.size);have Wy:Below w.heap.size w W2:=hbW.trans (hB2.mono hbW.size);have HX:Hid (∀ u,Below W2.heap.size W2 u→u.cell? ⟨wr.heap.size,0,none⟩=some (.int .i64 y.no)∧u.rangeAt wr.heap.size 1 y.page.cells):=fun u hu=>⟨(b2.below hu b2.lt).cell 0 _ rfl,vH y (b2.below hu b2.lt)⟩
     have x0:=(HX.out W2 (Below.refl _ _)).1;have xp:=(HX.out W2 (Below.refl _ _)).2;have Jl:=Tryz.Jm y.page rfl;have C:=JS y.page rfl W2 (hg.keep Wy) (MB.below hB2') hsh;have e2:y.page.lsn=y.lsn:=rfl;have e3:y.page.ss=y.ss:=rfl;rw [e2,e3] at C;have CN:=VM y.no W2;have HW2:Hid (W1.setCells wr.heap.size 0 y.cells.toArray.toList=W2):=hW2.out;have Vo:=ko y;clear hs1 hs2 b1 b2 hb1 hw2 hW2 hbl ve e2 e3 MB hsh hB2';cases h6:inB y.no 0 7 with
     | false=>
      have HR2:Hid (R=false):=HN.out (by rw [h6];rfl);rw [h6] at CN;clear HN HY C h6 xp;go_wp2_with (first | (guard_target=wpList _ _ _ (Oper.mk (some 26) _ _ _ _ _::_) _ _;refine wpList_load_mid rfl 167 (.tmp 25) rfl b (off+k*20) rfl y.cells _ wQ.out Tryz.underlying167 rfl HJ.out ?_) | (guard_target=wpList _ _ _ (Oper.mk none (Op.store _ (Operand.tmp 4) _) _ _ _ _::_) _ _;refine wpList_store_mid rfl 167 (.tmp 4) (.tmp 26) rfl wr.heap.size 0 y.cells.toArray rfl rfl (by rw [hW1.out];exact HT2.out) HJ.out Vo ?_;rw [hW1.out,HW2.out]) | fail);refine CN.mono ?_;rintro e u ⟨rfl,hu⟩;rw [hu];clear hu u CN;go_wp2_with fail;go_ret;exact ⟨qd HR2.out.symm,Wy⟩
     | true=>
      rw [h6,Bool.true_and] at HN HY;rw [h6] at CN;clear h6;cases h7:ze y.lsn (y.ss.map (·.v)) with
      | false=>
       have HR2:Hid (R=false):=HN.out (by rw [h7];rfl);rw [h7] at C;clear HN HY h7;generalize y.page.cells=pc at*
       go_wp2_with (first | (guard_target=wpList _ _ _ (Oper.mk (some 26) _ _ _ _ _::_) _ _;refine wpList_load_mid rfl 167 (.tmp 25) rfl b (off+k*20) rfl y.cells _ wQ.out Tryz.underlying167 rfl HJ.out ?_) | (guard_target=wpList _ _ _ (Oper.mk none (Op.store _ (Operand.tmp 4) _) _ _ _ _::_) _ _;refine wpList_store_mid rfl 167 (.tmp 4) (.tmp 26) rfl wr.heap.size 0 y.cells.toArray rfl rfl (by rw [hW1.out];exact HT2.out) HJ.out Vo ?_;rw [hW1.out,HW2.out]) | fail);refine CN.mono ?_;rintro e u ⟨rfl,hu⟩;rw [hu];clear hu u CN;go_wp2_with (first | (guard_target=wpList _ _ _ (Oper.mk (some 33) _ _ _ _ _::_) _ _;refine qK (by rfl) 31 (.tmp 32) rfl wr.heap.size 1 rfl pc _ xp Tryz.underlying31 rfl Jl ?_) | fail);refine C.mono ?_;rintro e w1 ⟨rfl,hb1⟩;go_wp2_with fail;go_ret;exact ⟨qd HR2.out.symm,Wy.trans (hb1.mono Wy.size)⟩
      | true=>
       rw [h7,Bool.true_and] at HN HY;rw [h7] at C;clear h7;generalize y.page.cells=pc at*
       go_wp2_with (first | (guard_target=wpList _ _ _ (Oper.mk (some 26) _ _ _ _ _::_) _ _;refine wpList_load_mid rfl 167 (.tmp 25) rfl b (off+k*20) rfl y.cells _ wQ.out Tryz.underlying167 rfl HJ.out ?_) | (guard_target=wpList _ _ _ (Oper.mk none (Op.store _ (Operand.tmp 4) _) _ _ _ _::_) _ _;refine wpList_store_mid rfl 167 (.tmp 4) (.tmp 26) rfl wr.heap.size 0 y.cells.toArray rfl rfl (by rw [hW1.out];exact HT2.out) HJ.out Vo ?_;rw [hW1.out,HW2.out]) | fail);refine CN.mono ?_;rintro e u ⟨rfl,hu⟩;rw [hu];clear hu u CN;go_wp2_with (first | (guard_target=wpList _ _ _ (Oper.mk (some 33) _ _ _ _ _::_) _ _;refine qK (by rfl) 31 (.tmp 32) rfl wr.heap.size 1 rfl pc _ xp Tryz.underlying31 rfl Jl ?_) | fail);refine C.mono ?_;rintro e w1 ⟨rfl,hb1⟩;have B1:Below W.heap.size W w1:=hB2.trans (hb1.mono hB2.size);have Og:Below w.heap.size w w1:=hbW.trans (B1.mono hbW.size);have CS:=HST.out y.no w1 Og;have p0:=(HP.out w1 B1).1;have p1:=(HP.out w1 B1).2;clear x0 xp C;have x0:=(HX.out w1 hb1).1;clear HX HP HST hB2 Wy hb1;by_cases h8:SD y.no=(k:Int)
       ·have HR2:=HY.out (by simpa using h8);have HR3:Hid _:=HR2;rw [h8] at CS;have hne:((k:Int) != (k:Int))=false:=by simp
        clear HN HY HR2 h8;go_wp2_with fail;refine CS.mono ?_;rintro e w2 ⟨rfl,hb2⟩;have B2:Below W.heap.size W w2:=B1.trans (hb2.mono B1.size);go_wp2_with fail;go_roundw
        case rel=>exact ⟨k+1,by omega,by go_num,HR3,B2⟩
        case measure=>simp [intOf];omega
       ·have HR2:Hid (R=false):=HN.out (by simpa using h8);have hne:(SD y.no != (k:Int))=true:=by simpa using h8
        clear HN HY h8;generalize SD y.no=sd at*
        go_wp2_with fail;refine CS.mono ?_;rintro e w2 ⟨rfl,hb2⟩;go_wp2_with fail;go_ret;exact ⟨qd HR2.out.symm,Og.trans (hb2.mono Og.size)⟩
    ·have HE:Hid (true=R):=(mZ.out (fun m hm=>hall.out m (by omega))).symm;clear hall mZ;go_wp2;go_ret;exact ⟨qd HE.out,ve⟩
end Go.Proofs.YtjkckhfddgeboaaGreatDoor
namespace Go.Proofs.YtjkckhfddgeboaaGreatDoor
open Go.RowKit Go.Shelf
theorem Uf {F:Fence} {n:Nat} {P:Program} {ops:Array Oper} {rest:List Oper} {o:Oper} {a:Act} {w w':World} {Q:Exit→Act→World→Prop} {v:Value} (hgd:o.guard=none) (hF:∀ f,F.fn f) (hs:o.semAt F.round a.eval=execOp a.eval o)
  (hrun:(execOp a.eval o).run P w=.ok (.value v) w') (h:wpListIn F n P ops Q rest (a.put o.dst v) w'):wpListIn F n P ops Q (o::rest) a w:=
 wpListIn_plain hgd fun K hK=>⟨fun f _=>hF f,by rw [hs,hrun,Oper.uponIn_value];exact hK _ _ h⟩
theorem Du {F:Fence} {n:Nat} {P:Program} {ops:Array Oper} {rest:List Oper} {o:Oper} {a:Act} {w w':World} {Q:Exit→Act→World→Prop} (hgd:o.guard=none) (hF:∀ f,F.fn f) (hs:o.semAt F.round a.eval=execOp a.eval o)
  (hrun:(execOp a.eval o).run P w=.ok .skip w') (h:wpListIn F n P ops Q rest (a.put o.dst undef) w'):wpListIn F n P ops Q (o::rest) a w:=
 wpListIn_plain hgd fun K hK=>⟨fun f _=>hF f,by rw [hs,hrun,Oper.uponIn_skip];exact hK _ _ h⟩
theorem Co {F:Fence} {n:Nat} {P:Program} {ops:Array Oper} {rest:List Oper} {op:Oper} {a:Act} {w:World} {Q:Exit→Act→World→Prop} (hgd:op.guard=none) (hF:∀ f,F.fn f) (hs:op.semAt F.round a.eval=execOp a.eval op) (ty:TypeId) (x:Operand) (ho:op.op=.load ty x)
  (b o:Nat) (hx:a.eval x=.pointer (some ⟨b,o,none⟩)) (cs:List Value) (d:TypeDesc) (hc:w.rangeAt b o cs)
  (hu:P.underlying ty=some d) (hd:d.isRow=true) (hi:(P.info? ty).map (·.size)=some cs.length)
  (h:wpListIn F n P ops Q rest (a.put op.dst (.agg cs.toArray)) w):wpListIn F n P ops Q (op::rest) a w:=by
 refine Uf hgd hF hs (v:=.agg cs.toArray) ?_ h;unfold execOp;simp only [ho,hx,Instr.loadAt,Instr.sureAddr,Sem.run_bind,Sem.run_pure,Result.andThen_ok,run_loadVar_mid w b o ty cs d hc hu hd hi]
theorem Dv {F:Fence} {n:Nat} {P:Program} {ops:Array Oper} {rest:List Oper} {op:Oper} {a:Act} {w:World} {Q:Exit→Act→World→Prop} (hgd:op.guard=none) (hF:∀ f,F.fn f) (hs:op.semAt F.round a.eval=execOp a.eval op) (ty:TypeId) (x y:Operand) (ho:op.op=.store ty x y)
  (b o:Nat) (cs:Array Value) (hx:a.eval x=.pointer (some ⟨b,o,none⟩)) (hy:a.eval y=.agg cs) (ht:w.there b o cs.size)
  (hi:(P.info? ty).map (·.size)=some cs.size) (h1:cs.all (·.oneCell')=true)
  (h:wpListIn F n P ops Q rest (a.put op.dst undef) (w.setCells b o cs.toList)):wpListIn F n P ops Q (op::rest) a w:=by
 refine Du hgd hF hs ?_ h;unfold execOp;simp only [ho,hx,hy,Sem.run_bind,Sem.run_pure,Result.andThen_ok,run_storeAt_mid w b o ty cs ht hi h1]
theorem dD {n:Nat} {P:Program} {g:Operand} {ps:Array Tmp} {assign body:Code} {Q:Exit→Act→World→Prop} {a:Act} {w:World} {gf:Nat} {lb:Array Value} (hg:a.eval g=.func (.func gf) #[] lb) (eg:∀ args w,(callFunc gf args).run P w=.ok (.enter gf args) w)
  (h:∀ (r:Loop) (W1:World),r.state=.ready→r.pending=none→r.tmps=a.tmps→r.params=ps→r.assign=assign→r.body=body→W1.heap[w.heap.size+1]? =some (.loop r)→W1.heap[w.heap.size]? =some (.deferred (some []))→Below w.heap.size w W1→W1.heap.size=w.heap.size+2→
   CallsIn Fence.wide (n-1) P gf (#[.func (.yield (w.heap.size+1)) #[] #[]]++lb) W1 (rangePost Fence.wide n P (w.heap.size+1) Q { a with defers:=[{ target:=.collected w.heap.size,args:=#[] }]++a.defers })):
  (Code.rangeFunc g ps assign body).wpIn Fence.wide n P Q a w:=by
 refine wpIn_rangeFunc ?_;intro fn _;obtain ⟨r,hr⟩:∃ r:Loop,({ state:=.ready,pending:=none,fn:=fn,tmps:=a.tmps,params:=ps,assign:=assign,body:=body,defers:=w.heap.size }:Loop)=r:=⟨_,rfl⟩;obtain ⟨W1,hW1⟩:∃ W1,(w.alloc (.deferred (some []))).alloc (.loop r)=W1:=⟨_,rfl⟩;have hL:W1.heap[w.heap.size+1]? =some (.loop r):=by
  rw [← hW1];have:=World.alloc_heap_new (w.alloc (.deferred (some []))) (.loop r)
  rwa [World.size_alloc] at this
 have hD:W1.heap[w.heap.size]? =some (.deferred (some [])):=by
  rw [← hW1];exact (Below.heap_alloc _ _ _ (by simp)).trans (World.alloc_heap_new w _)
 have hB:Below w.heap.size w W1:=by
  rw [← hW1];exact ((Below.refl _ w).alloc (Nat.le_refl _) _).alloc (by simp) _
 have hS:W1.heap.size=w.heap.size+2:=by rw [← hW1];simp
 have hc:=h r W1 (by rw [← hr]) (by rw [← hr]) (by rw [← hr]) (by rw [← hr]) (by rw [← hr]) (by rw [← hr]) hL hD hB hS;refine ⟨w.heap.size+1,[{ target:=.collected w.heap.size,args:=#[] }],W1,{ target:=.fn (.func gf) lb,args:=#[.func (.yield (w.heap.size+1)) #[] #[]] },W1,gf,#[.func (.yield (w.heap.size+1)) #[] #[]]++lb,W1,?_,?_,?_,?_,?_,?_⟩
 ·rw [← hW1,← hr];exact run_enterLoop_outer fn a.tmps ps assign body
 ·simp only [resolve,hg];simp [go_sem]
 ·intro f' _
  trivial
 ·simp [invoke,go_sem,eg]
 ·intro hh;have hn:Fence.wide.depth.isSome=false:=rfl;rw [hn] at hh;cases hh
 ·exact hc
theorem vC (w:World) (l:Nat) (o:Obj):Within l (l+1) w (w.putObj l o)∧(w.putObj l o).heap.size=w.heap.size:=by
 refine ⟨⟨rfl,rfl,rfl,by simp [World.putObj],fun k _ hn=>World.putObj_heap_other (by omega)⟩,by simp [World.putObj]⟩
theorem Cq {m:Nat} {P:Program} {l:Nat} {r:Loop} {args:Array Value} {W:World} {R:Ending→World→Prop} (hL:W.heap[l]? =some (.loop r)) (hs:args.size=r.params.size) (hrd:r.state=.ready)
  (h:r.assign.wpIn (Fence.wide.inRound l) m P (Exit.then (fun a1 w1=>w1.heap[l]? =some (.loop r)∧∀ V,V.heap[l]? =some (.loop { r with state:=.busy })→Within l (l+1) w1 V→V.heap.size=w1.heap.size→r.body.wpIn (Fence.wide.inRound l) m P (roundPost P l R) a1 V) (fun _ _ _=>False))
   { tmps:=(r.params.zip args).foldl (fun t (p,v)=>t.setIfInBounds p v) r.tmps,defers:=[] } W):YieldAt Fence.wide m P l args W R:=by
 refine ⟨r.fn,_,r.assign,r.body,run_yield hL hs,roundIn_of_wpIn trivial (wpIn_mono h ?_)⟩;intro e a1 w1 hp;cases e with
 | normal=>exact ⟨_,run_beginRound hp.1 hrd,hp.2 _ (World.putObj_heap_same (Array.getElem?_eq_some_iff.1 hp.1).1) (vC w1 l _).1 (vC w1 l _).2⟩
 | exit id=>exact hp.elim
 | goto t=>exact hp.elim
 | ret=>exact hp.elim
 | panic ch=>exact hp.elim
 | outgrown=>exact hp.elim
theorem iE {P:Program} {l:Nat} {r:Loop} {V:World} (jump:Option Code) (hL:V.heap[l]? =some (.loop r)):
  ∃ X,(Instr.endRound l jump).run P V=.ok (.bool jump.isNone) X∧X.heap[l]? =some (.loop { r with state:=if jump.isNone then .ready else .done,pending:=jump })∧Within l (l+1) V X∧X.heap.size=V.heap.size:=
 ⟨_,run_endRound jump hL,World.putObj_heap_same (Array.getElem?_eq_some_iff.1 hL).1,(vC V l _).1,(vC V l _).2⟩
theorem Pf {P:Program} {l:Nat} {r:Loop} {V:World} (hst:r.state=.ready) (Tf:r.pending=none) (hL:V.heap[l]? =some (.loop { r with state:=.busy })):
  ∃ X,(Instr.endRound l none).run P V=.ok (.bool true) X∧X.heap[l]? =some (.loop r)∧Within l (l+1) V X∧X.heap.size=V.heap.size:=by
 obtain ⟨X,h1,h2,h3,h4⟩:=iE (P:=P) (r:={ r with state:=.busy }) none hL;refine ⟨X,h1,?_,h3,h4⟩;rw [h2];cases r;simp only at hst Tf;subst hst Tf;rfl
end Go.Proofs.YtjkckhfddgeboaaGreatDoor
namespace Go.Proofs.YtjkckhfddgeboaaGreatDoor
open Go.RowKit Go.Shelf
attribute [local go_sem] Oper.semAt_some
theorem Hz {F:Fence} {n:Nat} {w:World} {ops:Array Oper} {rest:List Oper} {o:Oper} {act:Act} {Q:Exit→Act→World→Prop} (hgd:o.guard=none) (hF:∀ f,F.fn f) (hsm:o.semAt F.round act.eval=execOp act.eval o) (s x:Operand)
  (ho:o.op=.call { callee:=.builtin .append,args:=#[s,x],argTypes:=#[24,24] })
  (lo hi:Nat) (a:Option Addr) (c:Nat) (xs:List Int) (hs:act.eval s=.slice a xs.length c) (hown:jG w lo hi a c xs)
  (sa:Option Addr) (sc:Nat) (zs:List Int) (hx:act.eval x=.slice sa zs.length sc) (hr:ky w sa zs) (hc:sa=none→sc=0)
  (hb:xs.length+zs.length≤1099511627776) (hlo:lo≤w.heap.size)
  (h:∀ a' c' ys w',Hid (ys=xs++zs)→jG w' lo w'.heap.size a' c' ys→w.grownBy w' (Value.slice a xs.length c).ownBlock→(∀ k,(Value.slice a' ys.length c').ownBlock=some k→(Value.slice a xs.length c).ownBlock=some k∨k=w.heap.size)→wpListIn F n Tryz.prog ops Q rest (act.put o.dst (.slice a' ys.length c')) w'):
  wpListIn F n Tryz.prog ops Q (o::rest) act w:=by
 obtain ⟨a',c',ys,w',hrun,h1,h2,h3,h4⟩:=YA (w:=w) o.type lo hi a c xs hown sa sc zs hr hc hb hlo;refine Uf hgd hF hsm ?_ (h a' c' ys w' h1 h2 h3 h4);unfold execOp;simp only [ho,resolve,invoke,builtin,Sem.run_bind,Sem.run_pure,Result.andThen_ok,List.map_toArray,List.map_cons,List.map_nil,hs,hx,hrun]
theorem Pg (a:Option Addr) (n c:Nat) (w:World):
  Calls Tryz.prog 274 #[.slice a n c] w fun e w'=>e=.returned (.func (.func 327) #[] #[.pointer (some ⟨w.heap.size,0,none⟩)])∧w'=w.alloc (.cells #[.slice a n c] 36):=by
 have hmf:∀ (fn:Fn) (first cap:Array Value) (w:World),(Instr.makeFunc fn first cap).run Tryz.prog w=.ok (.func fn first cap) w:=fun _ _ _ _=>rfl
 go_enter Tryz.func274,Tryz.ntmps274;go_wp2;go_ret;exact ⟨rfl,rfl⟩
theorem Dw (m L B3:Nat) (a:Option Addr) (c:Nat) (rs:List qg) (hl:rs.length≤1099511627776) (J:Nat→World→Prop)
  (hJ:∀ k W,J k W→Box W B3 [.slice a rs.length c] 36∧xc W a rs)
  (hY:∀ k W,k<rs.length→J (k+1) W→YieldAt Fence.wide m Tryz.prog L #[.int .i64 (k:Int),.agg (rs.getD k qm).cells.toArray] W fun e W'=>e=.returned (.bool true)∧J k W')
  (W:World) (h0:J rs.length W):
  CallsIn Fence.wide (m+1) Tryz.prog 327 #[.func (.yield L) #[] #[],.pointer (some ⟨B3,0,none⟩)] W fun e W'=>(∃ v,e=.returned v)∧J 0 W':=by
 have HI:Hid ((Tryz.prog.info? 189).map (·.size)=some 15):=by rw [Hid];kernel_rfl
 refine callsIn_of_wp Tryz.func327 rfl trivial ?_ rfl;simp only [Tryz.ntmps327,List.size_toArray,List.length_cons,List.length_nil,Nat.reduceAdd,Nat.reduceSub,Array.replicate_succ,Array.replicate_zero,List.push_toArray,List.append_toArray,List.nil_append,List.cons_append];have x0:=(hJ _ _ h0).1.cell 0 _ rfl
 gi_wp2
 clear x0
 gi_loopw [3] (fun i wr=>∃ k:Nat,i=.int .i64 ((k:Int)-1)∧k≤rs.length∧J k wr) (fun i _=>(intOf i+1).toNat)
 case atStart=>exact ⟨rs.length,by go_num,Nat.le_refl _,h0⟩
 case round=>
  obtain ⟨k,rfl,hk,hj⟩:=hrel;obtain ⟨bx,hrd⟩:=hJ k wr hj;cases k with
  | zero=>
   gi_wp2
   exact bodyPost_end (results_none rfl _ _ _) rfl ⟨⟨_,rfl⟩,hj⟩
  | succ k=>
   have x0:=bx.cell 0 _ rfl;obtain ⟨b,off,rfl,hcell⟩:=hrd (by rintro rfl;simp at hk);have R3:=(hcell k (by omega)).1;obtain ⟨fn,tmps,assign,body,hy,hR⟩:=hY k wr (by omega) hj;have hkk:(k:Int)<(rs.length:Int):=by omega
   have hi0:(0:Int)≤(k:Int):=by omega
   have hk1:((k+1:Nat):Int)-1=(k:Int):=by omega
   rw [hk1];clear hcell bx hrd hj;generalize rs.getD k qm=z at*
   gi_wp2_with (first | (guard_target=wpListIn _ _ _ _ _ (Oper.mk (some 16) _ _ _ _ _::_) _ _;refine Co rfl (fun _=>trivial) rfl 189 (.tmp 15) rfl b (off+k*15) rfl z.cells _ R3 Tryz.underlying189 rfl HI.out ?_) | fail)
   refine hR.mono ?_;rintro e W4 ⟨rfl,Gd⟩
   gi_wp2
   go_roundw
   case rel=>exact ⟨k,by go_num,by omega,Gd⟩
   case measure=>simp [intOf]
end Go.Proofs.YtjkckhfddgeboaaGreatDoor
namespace Go.Proofs.YtjkckhfddgeboaaGreatDoor
open Go.RowKit Go.Shelf
attribute [local go_sem] Oper.semAt_some
theorem jG.XO {w w':World} {lo hi:Nat} {a:Option Addr} {c:Nat} {ns:List Int} (h:jG w lo hi a c ns) (hs:w.heap.size≤w'.heap.size) (hb:∀ k,(Value.slice a ns.length c).ownBlock=some k→w'.heap[k]? =w.heap[k]?):jG w' lo hi a c ns:=
 ⟨jE h.1 hb,Nat.le_trans h.2.1 hs,h.2.2⟩
theorem dE {w V w3:World} {B T:Nat} {r:Loop} {x:Int} {a:Option Addr} {c n lc ln:Nat} {la:Option Addr} {tx:Int} (hg:(V.alloc (.cells #[.int .i64 x] 3)).grownBy w3 (Value.slice a n c).ownBlock)
  (kV:Box V (B+1+1+1) [.slice a n c] 24) (tV:Box V (B+1) [.int .i64 tx] 3) (rV:Box V (B+1+1+1+1) [.slice la ln lc] 36)
  (hL:V.heap[B+1+1+1+1+1+1]? =some (.loop r)) (hD:V.heap[B+1+1+1+1+1]? =some (.deferred (some []))) (BV:Below w.heap.size w V) (hB:w.heap.size≤B) (hT:B+1+1+1+1+1+1<T)
  (oB:∀ k,(Value.slice a n c).ownBlock=some k→k=B+1+1∨T≤k):
  Box w3 (B+1+1+1) [.slice a n c] 24∧Box w3 (B+1) [.int .i64 tx] 3∧Box w3 (B+1+1+1+1) [.slice la ln lc] 36∧w3.heap[B+1+1+1+1+1+1]? =some (.loop r)∧w3.heap[B+1+1+1+1+1]? =some (.deferred (some []))∧Below w.heap.size w w3∧V.heap.size<w3.heap.size:=by
 have hA:Below V.heap.size V (V.alloc (.cells #[.int .i64 x] 3)):=(Below.refl _ _).alloc (Nat.le_refl _) _;have hs:(V.alloc (.cells #[.int .i64 x] 3)).heap.size=V.heap.size+1:=by simp
 have hb:∀ k,k<V.heap.size→k≠B+1+1→k<T→w3.heap[k]? =V.heap[k]? :=fun k hk h2 h3=>(hg.block k (by omega) (fun e=>by have:=oB k e.symm;omega)).trans (hA.block k hk)
 have hl1:=(Array.getElem?_eq_some_iff.1 hL).1;have hl2:=(Array.getElem?_eq_some_iff.1 hD).1;have k1:=kV.lt;have k2:=tV.lt;have k3:=rV.lt;refine ⟨kV.block (hb _ k1 (by omega) (by omega)),tV.block (hb _ k2 (by omega) (by omega)),rV.block (hb _ k3 (by omega) (by omega)),(hb _ hl1 (by omega) (by omega)).trans hL,(hb _ hl2 (by omega) (by omega)).trans hD,?_,by have:=hg.size;omega⟩;exact ⟨hg.os.trans BV.os,hg.tape.trans BV.tape,hg.output.trans BV.output,Nat.le_trans BV.size (by have:=hg.size;omega),fun k hk=>(hb k (by have:=BV.size;omega) (by omega) (by omega)).trans (BV.block k hk)⟩
structure ChJ (w:World) (B L D T:Nat) (r:Loop) (la:Option Addr) (lc:Nat) (rs:List qg) (tx:Int) (R:List Int) (k:Nat) (W:World):Prop where
 own:∃ a c,∃ ys:List Int,Box W (B+1+1+1) [.slice a ys.length c] 24∧jG W (B+1+1) W.heap.size a c ys∧(∀ k,(Value.slice a ys.length c).ownBlock=some k→k=B+1+1∨T≤k)∧ys++yZ tx (rs.map qg.v) k=R∧ys.length+k≤rs.length
 tx:Box W (B+1) [.int .i64 tx] 3
 row:Box W (B+1+1+1+1) [.slice la rs.length lc] 36
 loop:W.heap[L]? =some (.loop r)
 dfr:W.heap[D]? =some (.deferred (some []))
 bel:Below w.heap.size w W
 top:T≤W.heap.size
theorem H5 (l:qz) (tx:Int) (w:World) (hr:l.reads w) (hl:l.recs.length≤1048576):
  Calls Tryz.prog 249 #[.agg l.cells.toArray,.int .i64 tx] w fun e w'=>∃ a c,∃ ys:List Int,e=.returned (.slice a ys.length c)∧Hid (ys=chainOf l.v tx)∧jG w' w.heap.size w'.heap.size a c ys∧Below w.heap.size w w':=by
 obtain ⟨rs,sure,la,lc⟩:=l;simp only [qz.cells,qz.reads,qz.v] at*
 have HF:Hid ([]++yZ tx (rs.map qg.v) rs.length=chainOf ⟨rs.map qg.v,sure⟩ tx):=by rw [Hid];simp [chainOf]
 generalize chainOf ⟨rs.map qg.v,sure⟩ tx=R at*
 refine (callsIn_wide (n:=4)).1 ?_;refine callsIn_of_wp_marks Tryz.func249 rfl trivial ?_ rfl;simp only [Tryz.ntmps249,List.size_toArray,List.length_cons,List.length_nil,Nat.reduceAdd,Nat.reduceSub,Array.replicate_succ,Array.replicate_zero,List.push_toArray,List.append_toArray,List.nil_append,List.cons_append];obtain ⟨W0,hW0,b0,b1,b2,hbW0,Oh⟩:=yn w [.slice la rs.length lc,.int .i64 sure] [.int .i64 tx] [] 38 3 3;obtain ⟨W,hW,b3,hb1,hs1⟩:=qx W0 [.slice (some ⟨w.heap.size+1+1,0,none⟩) 0 0] 24;rw [Oh] at b3;have hbW:Below w.heap.size w W:=hbW0.trans (hb1.mono hbW0.size);have k0:=b0.below hb1 b0.lt;have k1:=b1.below hb1 b1.lt;have k2:=b2.below hb1 b2.lt;have k3:Box W (w.heap.size+1+1+1) [.slice (some ⟨w.heap.size+1+1,0,none⟩) 0 0] 24:=b3;have Oi:Hid (W.heap.size=w.heap.size+1+1+1+1):=by rw [Hid];omega
 have qfO:W.heap.size≤w.heap.size+1+1+1+1:=by omega
 have qfP:w.heap.size+1+1+1+1≤W.heap.size:=by omega
 have o2:jG W (w.heap.size+1+1) W.heap.size (some ⟨w.heap.size+1+1,0,none⟩) 0 []:=by
  have h:=FW ((w.alloc (.cells #[.slice la rs.length lc,.int .i64 sure] 38)).alloc (.cells #[.int .i64 tx] 3));have e:(((w.alloc (.cells #[.slice la rs.length lc,.int .i64 sure] 38)).alloc (.cells #[.int .i64 tx] 3)).alloc (.cells #[] 3))=W0:=hW0.out;rw [e,World.size_alloc,World.size_alloc] at h;exact (h.below hb1).widen (by omega) (by omega) (by omega)
 clear Oh hs1 b0 b1 b2 b3 hb1 hbW0 k2;have x0:=k0.cell 0 _ rfl;have HI:Hid ((Tryz.prog.info? 189).map (·.size)=some 15):=by rw [Hid];kernel_rfl
 have hW':(((w.alloc (.cells #[.slice la rs.length lc,.int .i64 sure] 38)).alloc (.cells #[.int .i64 tx] 3)).alloc (.cells #[] 3)).alloc (.cells #[.slice (some ⟨w.heap.size+1+1,0,none⟩) 0 0] 24)=W:=by rw [← hW.out,← hW0.out]
 have HW':Hid (_=W):=hW';clear hW' hW hW0
 gi_upto_region 2 with fail
 rw [HW'.out];clear HW'
 gi_wp2_with fail
 refine ⟨trivial,?_⟩
 gi_at_call 274
 refine (callsIn_wide.2 (Pg la rs.length lc W)).mono ?_;rintro e w1 ⟨rfl,h1⟩;obtain ⟨W3,hW3,b4,hb3,hs3⟩:=qx W [.slice la rs.length lc] 36;have dF:W.alloc (.cells #[.slice la rs.length lc] 36)=W3:=hW3.out;rw [dF] at h1;subst h1;have HS3:Hid (w1.heap.size=w.heap.size+1+1+1+1+1):=by rw [Hid,hs3,Oi.out]
 have k13:=k1.below hb3 k1.lt;have k33:=k3.below hb3 k3.lt;have o23:=o2.below hb3;have D3:Below w.heap.size w w1:=hbW.trans (hb3.mono hbW.size);clear hW3 dF hs3 k0 k1 k3 x0 o2;rw [Oi.out] at b4
 gi_wp2_with fail
 refine dD (gf:=327) (lb:=#[.pointer (some ⟨W.heap.size,0,none⟩)]) rfl (enters_of Tryz.func327 (by kernel_rfl) rfl) ?_;intro r W4 hst Tf fG hps has hbd hL hD hB4 hS4;have HBD:Hid (r.body=_):=hbd;have HAS:Hid (r.assign=_):=has;have HTM:Hid (r.tmps=_):=fG;have Oj:Hid (r.params=_):=hps;have HST:Hid (r.state=_):=hst;have Ab:Hid (r.pending=none):=Tf;clear hst Tf fG hps has hbd;rw [HS3.out] at hL hD hS4;have qfQ:w.heap.size+1+1+1+1+1+1<W4.heap.size:=by omega
 clear hS4;rw [show #[Value.func (.yield (w1.heap.size+1)) #[] #[]]++#[Value.pointer (some ⟨W.heap.size,0,none⟩)]=#[Value.func (.yield (w1.heap.size+1)) #[] #[],Value.pointer (some ⟨W.heap.size,0,none⟩)] from rfl,HS3.out,Oi.out];have hJ0:ChJ w w.heap.size (w.heap.size+1+1+1+1+1+1) (w.heap.size+1+1+1+1+1) W4.heap.size r la lc rs tx R rs.length W4:=
  ⟨⟨some ⟨w.heap.size+1+1,0,none⟩,0,[],k33.below hB4 k33.lt,(o23.below hB4).widen (Nat.le_refl _) (by have:=hB4.size;have:=hb3.size;omega) (Nat.le_refl _),fun k hk=>by cases hk;exact .inl rfl,HF.out,by simp⟩,k13.below hB4 k13.lt,b4.below hB4 b4.lt,hL,hD,D3.trans (hB4.mono D3.size),Nat.le_refl _⟩
 refine (Dw 2 (w.heap.size+1+1+1+1+1+1) (w.heap.size+1+1+1+1) la lc rs (by omega) (ChJ w w.heap.size (w.heap.size+1+1+1+1+1+1) (w.heap.size+1+1+1+1+1) W4.heap.size r la lc rs tx R) ?_ ?_ W4 hJ0).mono ?_
 ·intro k X j;exact ⟨j.row,hr.below j.bel⟩
 ·intro k X hk j;obtain ⟨a,c,ys,kR,oR,oB,hEq,hLen⟩:=j.own;have Tg:Hid (_=R):=Cr tx rs k ys R hEq;clear hEq;generalize rs.getD k qm=z at*
  obtain ⟨X1,hX1,z1,hb1,hs1⟩:=qx X [.int .i64 0,.int .i64 0,.int .i64 0,.int .i64 0,.int .i64 0,.bool false,.int .i64 0,.slice none 0 0,.slice none 0 0,.bool false,.int .i64 0,.slice none 0 0,.slice none 0 0,.int .i64 0,.slice none 0 0] 189;obtain ⟨X2,hX2,hw2,hs2,HT2,_,z2⟩:=Xb z _ rfl z1;have N2:Below X.heap.size X X2:=hb1.trans (hw2.below (Nat.le_refl _) (by omega));have hT:=j.top;have hlt2:=z2.lt;have sM:=N2.size;have kR2:=kR.below N2 kR.lt;have Ol:=oR.below N2;have tx2:=j.tx.below N2 j.tx.lt;have p9:=j.row.below N2 j.row.lt;have L2:=(N2.block _ (Array.getElem?_eq_some_iff.1 j.loop).1).trans j.loop;have d2:=(N2.block _ (Array.getElem?_eq_some_iff.1 j.dfr).1).trans j.dfr;have B2:=j.bel.trans (N2.mono j.bel.size);have hOt:=Q3 z;clear z1 hb1 hw2 hs1 hs2 kR oR;refine Cq j.loop (by rw [Oj.out];rfl) HST.out ?_;rw [HAS.out,Oj.out,HTM.out];simp only [List.zip_toArray,List.zip_cons_cons,List.zip_nil_right,List.foldl_toArray',List.foldl_cons,List.foldl_nil,List.setIfInBounds_toArray,List.set_cons_zero,List.set_cons_succ]
  gi_wp2_with (first | (guard_target=wpListIn _ _ _ _ _ (Oper.mk none (Op.store _ (Operand.tmp 7) _) _ _ _ _::_) _ _;refine Dv rfl (fun _=>trivial) rfl 189 (.tmp 7) (.tmp 13) rfl X.heap.size 0 z.cells.toArray rfl rfl (by rw [hX1.out];exact HT2.out) HI.out hOt ?_;rw [hX1.out,show X1.setCells X.heap.size 0 z.cells.toArray.toList=X2 from hX2.out]) | fail)
  clear hX1 hX2 HT2 hOt;intro V Om ny Oo;have Oq:V.heap[w.heap.size+1+1+1+1+1+1]? =some (.loop { r with state:=.busy }):=Om.trans (by rw [HAS.out,Oj.out,HTM.out]);clear Om;rw [HBD.out];have qfR:=Nat.le_of_eq Oo;have qfS:=Nat.le_of_eq Oo.symm;clear Oo;have kV:=kR2.within ny (by omega);have zV:=z2.within ny (by omega);have tV:=tx2.within ny (by omega);have rV:=p9.within ny (by omega);have oV:jG V (w.heap.size+1+1) X.heap.size a c ys:=Ol.XO ny.size (fun k hk=>ny.block k (by have:=Ol.2.2 k hk;omega) (by have:=oB k hk;omega));have dV:=(ny.block _ (Array.getElem?_eq_some_iff.1 d2).1 (by omega)).trans d2;have BV:Below w.heap.size w V:=B2.trans (ny.below (by omega) (by have:=B2.size;omega));have hbl:=j.bel.size;clear ny j kR2 Ol z2 tx2 p9 L2 d2 B2 N2;have x0:=kV.cell 0 _ rfl;have xf:=kV.frozen 0;have t0:=tV.cell 0 _ rfl;have z0:V.cell? ⟨X.heap.size,0,none⟩=some (.int .i64 z.lsn):=zV.cell 0 _ rfl;have z1:V.cell? ⟨X.heap.size,1,none⟩=some (.int .i64 z.tx):=zV.cell 1 _ rfl;have z3:V.cell? ⟨X.heap.size,3,none⟩=some (.int .i64 z.kind):=zV.cell 3 _ rfl;clear zV;have HS:=Tg.out;clear Tg;by_cases hq:XP tx z.v=true
  ·have Ac:Hid ((ys++[z.lsn])++yZ tx (rs.map qg.v) k=R):=by rw [if_pos hq] at HS;exact HS
   have Vj:(z.kind != 6)=true:=by simp [XP,qg.v] at hq;simpa using hq.2
   have xB:(z.tx == tx)=true:=by simp [XP,qg.v] at hq;simpa using hq.1
   clear HS hq;have hA:Below V.heap.size V (V.alloc (.cells #[.int .i64 z.lsn] 3)):=(Below.refl _ _).alloc (Nat.le_refl _) _;have oA:=oV.below hA
   gi_wp2_with (first | (guard_target=wpListIn _ _ _ _ _ (Oper.mk (some 27) _ _ _ _ _::_) _ _;refine Hz rfl (fun _=>trivial) rfl _ _ rfl (w.heap.size+1+1) X.heap.size a c ys rfl oA _ _ [z.lsn] rfl (Dx V z.lsn _) (fun h=>by cases h) (by simp;omega) (by simp;omega) ?_;intro a3 c3 y3 w3 hy3 ho3 hg3 hk3;have HA:=dE (B:=w.heap.size) (T:=W4.heap.size) hg3 kV tV rV Oq dV BV (by omega) (by omega) oB;obtain ⟨kA,tA,rA,LA,dA,BA,hsA⟩:=HA;have m0:=kA.cell 0 _ rfl;have mf:=kA.frozen 0) | fail)
   obtain ⟨U,hU,kU,GH,hsU⟩:=jB kA 0 (.slice a3 y3.length c3);simp only [List.set] at kU;rw [hU.out];have Ot:∀ k,(Value.slice a3 y3.length c3).ownBlock=some k→k=w.heap.size+1+1∨W4.heap.size≤k:=fun k hk=>(hk3 k hk).elim (fun h=>oB k h) (fun h=>.inr (by rw [World.size_alloc] at h;omega))
   have LU:=(GH.block _ (Array.getElem?_eq_some_iff.1 LA).1 (by omega)).trans LA;have dU:=(GH.block _ (Array.getElem?_eq_some_iff.1 dA).1 (by omega)).trans dA;have oU:jG U (w.heap.size+1+1) w3.heap.size a3 c3 y3:=ho3.XO GH.size (fun k hk=>GH.block k (ho3.2.2 k hk) (by have:=Ot k hk;omega));have BU:Below w.heap.size w U:=BA.trans (GH.below (by omega) (by omega));have tU:=tA.within GH (by omega);have rU:=rA.within GH (by omega);obtain ⟨Y,hrun,Ti,uf,hYs⟩:=Pf (P:=Tryz.prog) (V:=U) (r:=r) HST.out Ab.out LU;refine ⟨_,Y,hrun,rfl,⟨a3,c3,y3,kU.within uf (by omega),?_,Ot,by rw [hy3.out];exact Ac.out,by rw [hy3.out];simp;omega⟩,tU.within uf (by omega),rU.within uf (by omega),Ti,(uf.block _ (Array.getElem?_eq_some_iff.1 dU).1 (by omega)).trans dU,BU.trans (uf.below (by omega) (by omega)),by omega⟩;exact (oU.XO uf.size (fun k hk=>uf.block k (by have:=oU.2.2 k hk;have:=GH.size;omega) (by have:=Ot k hk;omega))).widen (Nat.le_refl _) (by omega) (Nat.le_refl _)
  ·have Ac:Hid (ys++yZ tx (rs.map qg.v) k=R):=by rw [if_neg hq] at HS;exact HS
   clear HS;by_cases h6:z.kind=6
   ·have Vj:(z.kind != 6)=false:=by simpa using h6
    clear h6 hq
    gi_wp2_with fail
    obtain ⟨Y,hrun,Ti,uf,hYs⟩:=Pf (P:=Tryz.prog) (V:=V) (r:=r) HST.out Ab.out Oq;refine ⟨_,Y,hrun,rfl,⟨a,c,ys,kV.within uf (by omega),?_,oB,Ac.out,by omega⟩,tV.within uf (by omega),rV.within uf (by omega),Ti,(uf.block _ (Array.getElem?_eq_some_iff.1 dV).1 (by omega)).trans dV,BV.trans (uf.below (by omega) (by omega)),by omega⟩;exact (oV.XO uf.size (fun k hk=>uf.block k (by have:=oV.2.2 k hk;omega) (by have:=oB k hk;omega))).widen (Nat.le_refl _) (by omega) (Nat.le_refl _)
   ·have Vj:(z.kind != 6)=true:=by simpa using h6
    have xB:(z.tx == tx)=false:=by simp [XP,qg.v,h6] at hq;simpa using hq
    clear h6 hq
    gi_wp2_with fail
    obtain ⟨Y,hrun,Ti,uf,hYs⟩:=Pf (P:=Tryz.prog) (V:=V) (r:=r) HST.out Ab.out Oq;refine ⟨_,Y,hrun,rfl,⟨a,c,ys,kV.within uf (by omega),?_,oB,Ac.out,by omega⟩,tV.within uf (by omega),rV.within uf (by omega),Ti,(uf.block _ (Array.getElem?_eq_some_iff.1 dV).1 (by omega)).trans dV,BV.trans (uf.below (by omega) (by omega)),by omega⟩;exact (oV.XO uf.size (fun k hk=>uf.block k (by have:=oV.2.2 k hk;omega) (by have:=oB k hk;omega))).widen (Nat.le_refl _) (by omega) (Nat.le_refl _)
 ·rintro e W5 ⟨⟨v,rfl⟩,j⟩;obtain ⟨a,c,ys,k5,o5,oB,hEq,hLen⟩:=j.own;have HE:Hid (ys=R):=by rw [Hid];simpa [yZ] using hEq
  have L5:=j.loop;have D5:=j.dfr;have B5:=j.bel;have hT:=j.top;have hs5:=B5.size;clear hEq j;obtain ⟨W6,Yn⟩:∃ W6,Hid (W5.putObj (w.heap.size+1+1+1+1+1+1) (.loop { r with state:=.exhausted })=W6):=⟨_,rfl⟩;have Qa:Within (w.heap.size+1+1+1+1+1+1) (w.heap.size+1+1+1+1+1+1+1) W5 W6:=by rw [← Yn.out];exact (vC _ _ _).1
  have hs6:=Qa.size;have Ad:(Instr.endLoop (w.heap.size+1+1+1+1+1+1)).run Tryz.prog W5=.ok none W6:=by rw [← Yn.out,← Ab.out];exact run_endLoop L5 (by rw [HST.out];simp)
  refine ⟨none,W6,Ad,?_⟩;clear Ad Yn L5;have k6:=k5.within Qa (by omega);have o6:jG W6 (w.heap.size+1+1) W5.heap.size a c ys:=o5.XO Qa.size (fun k hk=>Qa.block k (by have:=o5.2.2 k hk;omega) (by have:=oB k hk;omega));have d6:=(Qa.block _ (Array.getElem?_eq_some_iff.1 D5).1 (by omega)).trans D5;have B6:Below w.heap.size w W6:=B5.trans (Qa.below (by omega) (by omega));clear k5 o5 D5 B5 Qa;have x6:=k6.cell 0 _ rfl;show Exit.inBlock _ _ _ _ _
  gi_wp2_with fail
  obtain ⟨Y,hY⟩:∃ Y,Hid (W6.putObj (w.heap.size+1+1+1+1+1) (.deferred none)=Y):=⟨_,rfl⟩;have uf:Within (w.heap.size+1+1+1+1+1) (w.heap.size+1+1+1+1+1+1) W6 Y:=by rw [← hY.out];exact (vC _ _ _).1
  have hYs:=uf.size;have oY:jG Y (w.heap.size+1+1) W5.heap.size a c ys:=o6.XO hYs (fun k hk=>uf.block k (by have:=o6.2.2 k hk;omega) (by have:=oB k hk;omega));have oY':=oY.widen (show w.heap.size≤w.heap.size+1+1 by omega) (show W5.heap.size≤Y.heap.size by omega) (Nat.le_refl _);have BY:Below w.heap.size w Y:=B6.trans (uf.below (by omega) (by omega));refine ⟨by simp,.inl ⟨_,_,rfl,run_takeDeferred d6,?_⟩⟩;rw [hY.out];exact ⟨.slice a ys.length c,by simp [results,Tryz.results249,go_sem],a,c,ys,rfl,HE,oY',BY⟩
end Go.Proofs.YtjkckhfddgeboaaGreatDoor