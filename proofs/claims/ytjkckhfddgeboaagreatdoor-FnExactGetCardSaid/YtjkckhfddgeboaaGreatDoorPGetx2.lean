/- Several texts in one, in their order. -/
import Derived.Test.YtjkckhfddgeboaaGreatDoorPGetx1
import Derived.WalkKit
import Derived.Deep.RegionHeld3
import Derived.Test.YtjkckhfddgeboaaGreatDoorProg
import Derived.Deep.QuietTactic
import Derived.BigQuiet
set_option maxHeartbeats 8000000
set_option maxRecDepth 100000
namespace Go.Proofs.YtjkckhfddgeboaaGreatDoor
open Go.RowKit
def okB (o:xk):Bool:=inB o.kind 1 99 && (decide (o.ints.length≤5) && (decide (o.refs.length≤5) && (o.ints.all (fun z=>inB z (-1000000) 1000000) && o.refs.all (fun z=>inB z 0 31))))
theorem iF {o:xk} (h:inB o.kind 1 99=false):okB o=false:=by simp [okB,h]
theorem iG {o:xk} (h:¬ o.ints.length≤5):okB o=false:=by simp [okB,h]
theorem iH {o:xk} (h:¬ o.refs.length≤5):okB o=false:=by simp [okB,h]
theorem Ec {o:xk} (j:Nat) (hj:j<o.ints.length) (h:inB (o.ints.getD j 0) (-1000000) 1000000=false):okB o=false:=by
 have:(o.ints.all (fun z=>inB z (-1000000) 1000000))=false:=by
  rw [List.all_eq_false];exact ⟨o.ints.getD j 0,by simp [List.getD,hj],by rw [h];decide⟩
 simp [okB,this]
theorem Ed {o:xk} (j:Nat) (hj:j<o.refs.length) (h:inB (o.refs.getD j 0) 0 31=false):okB o=false:=by
 have:(o.refs.all (fun z=>inB z 0 31))=false:=by
  rw [List.all_eq_false];exact ⟨o.refs.getD j 0,by simp [List.getD,hj],by rw [h];decide⟩
 simp [okB,this]
theorem iI {o:xk} (h1:inB o.kind 1 99=true) (h2:o.ints.length≤5) (h3:o.refs.length≤5) (h4:∀ j,j<o.ints.length→inB (o.ints.getD j 0) (-1000000) 1000000=true) (h5:∀ j,j<o.refs.length→inB (o.refs.getD j 0) 0 31=true):okB o=true:=by
 have a4:(o.ints.all (fun z=>inB z (-1000000) 1000000))=true:=by
  rw [List.all_eq_true];intro z hz;obtain ⟨j,hj,rfl⟩:=List.getElem_of_mem hz;have:=h4 j hj
  simpa [List.getD,hj] using this
 have a5:(o.refs.all (fun z=>inB z 0 31))=true:=by
  rw [List.all_eq_true];intro z hz;obtain ⟨j,hj,rfl⟩:=List.getElem_of_mem hz;have:=h5 j hj
  simpa [List.getD,hj] using this
 simp [okB,h1,h2,h3,a4,a5]
theorem Hy (o:xk) (aI:Option Addr) (cI:Nat) (aR:Option Addr) (cR:Nat) (w:World) (hr:qQ w aI cI aR cR o) (UR:o.ints.length≤140737488355328) (hnR:o.refs.length≤140737488355328):
  Calls Tryz.prog 54 #[.agg #[.int .i64 o.kind,.slice aI o.ints.length cI,.slice aR o.refs.length cR]] w fun e w'=>e=.returned (.bool (okB o))∧Below w.heap.size w w':=by
 obtain ⟨k,ints,refs⟩:=o;obtain ⟨hI,hR,_,_⟩:=hr;simp only at*
 obtain ⟨W,hW,b0,hbW,qp⟩:=qx w [.int .i64 k,.slice aI ints.length cI,.slice aR refs.length cR] 26;have hI':=hI.below hbW;have hR':=hR.below hbW;have x1:=b0.cell 1 _ rfl;have x2:=b0.cell 2 _ rfl;cases hk:inB k 1 99 with
 | false=>
  have HK:Hid (_=_):=hk;have HE:Hid (okB ⟨k,ints,refs⟩=false):=iF hk;clear hk;go_enter Tryz.func54,Tryz.ntmps54;go_wp2_with fail;rw [hW.out];refine (jd _ _ _ _).mono ?_;rintro e w' ⟨rfl,rfl⟩;rw [HK.out];go_wp2;go_ret;exact ⟨qd HE.out.symm,hbW⟩
 | true=>
 have HK:Hid (_=_):=hk;clear hk;by_cases h5:ints.length≤5
 case neg=>
  have HE:Hid (okB ⟨k,ints,refs⟩=false):=iG h5;go_enter Tryz.func54,Tryz.ntmps54;go_wp2_with fail;rw [hW.out];refine (jd _ _ _ _).mono ?_;rintro e w' ⟨rfl,rfl⟩;rw [HK.out];go_wp2;go_ret;exact ⟨qd HE.out.symm,hbW⟩
 case pos=>
 by_cases h6:refs.length≤5
 case neg=>
  have HE:Hid (okB ⟨k,ints,refs⟩=false):=iH h6;go_enter Tryz.func54,Tryz.ntmps54;go_wp2_with fail;rw [hW.out];refine (jd _ _ _ _).mono ?_;rintro e w' ⟨rfl,rfl⟩;rw [HK.out];go_wp2;go_ret;exact ⟨qd HE.out.symm,hbW⟩
 case pos=>
 go_enter Tryz.func54,Tryz.ntmps54;go_wp2_with fail;rw [hW.out];refine (jd _ _ _ _).mono ?_;rintro e w' ⟨rfl,rfl⟩;rw [HK.out];go_wp2
 go_loop [3] (fun i=>∃ j:Nat,j≤ints.length∧i=.int .i64 j∧Hid (∀ t,t<j→inB (ints.getD t 0) (-1000000) 1000000=true)) (fun i=>ints.length-(RowKit.intOf i).toNat)
 case atStart=>exact ⟨0,by omega,rfl,fun t ht=>by omega⟩
 case round=>
  obtain ⟨j,hj,rfl,hall⟩:=hrel;by_cases hlt:j<ints.length
  ·rcases hI'.cases with rfl | ⟨b,off,rfl,hpos,hcell⟩
   ·simp at hlt
   have hc:=hcell j hlt;clear hcell;cases hz:inB (ints.getD j 0) (-1000000) 1000000 with
   | false=>
    have HE:Hid (okB ⟨k,ints,refs⟩=false):=Ec j hlt hz;have HZ:Hid (_=_):=hz;clear hz;generalize ints.getD j 0=z at*
    go_wp2_with fail;refine (jd _ _ _ _).mono ?_;rintro e w' ⟨rfl,rfl⟩;rw [HZ.out];go_wp2;go_ret;exact ⟨qd HE.out.symm,hbW⟩
   | true=>
    have HN:Hid (∀ t,t<j+1→inB (ints.getD t 0) (-1000000) 1000000=true):=by
     intro t ht;by_cases e:t=j
     ·rw [e];exact hz
     ·exact hall.out t (by omega)
    have HZ:Hid (_=_):=hz;clear hz;generalize ints.getD j 0=z at*
    go_wp2_with fail;refine (jd _ _ _ _).mono ?_;rintro e w' ⟨rfl,rfl⟩;rw [HZ.out];go_wp2
    go_round
    case rel=>exact ⟨j+1,by omega,by go_num,HN⟩
    case measure=>simp [RowKit.intOf];omega
  ·have xP:Hid (∀ t,t<ints.length→inB (ints.getD t 0) (-1000000) 1000000=true):=fun t ht=>hall.out t (by omega)
   go_wp2
   go_loop [4] (fun i=>∃ j:Nat,j≤refs.length∧i=.int .i64 j∧Hid (∀ t,t<j→inB (refs.getD t 0) 0 31=true)) (fun i=>refs.length-(RowKit.intOf i).toNat)
   case atStart=>exact ⟨0,by omega,rfl,fun t ht=>by omega⟩
   case round=>
    obtain ⟨i,hi,rfl,Ae⟩:=hrel;by_cases hlt2:i<refs.length
    ·rcases hR'.cases with rfl | ⟨b,off,rfl,hpos,hcell⟩
     ·simp at hlt2
     have hc:=hcell i hlt2;clear hcell;cases hz:inB (refs.getD i 0) 0 31 with
     | false=>
      have HE:Hid (okB ⟨k,ints,refs⟩=false):=Ed i hlt2 hz;have HZ:Hid (_=_):=hz;clear hz;generalize refs.getD i 0=z at*
      go_wp2_with fail;refine (jd _ _ _ _).mono ?_;rintro e w' ⟨rfl,rfl⟩;rw [HZ.out];go_wp2;go_ret;exact ⟨qd HE.out.symm,hbW⟩
     | true=>
      have HN:Hid (∀ t,t<i+1→inB (refs.getD t 0) 0 31=true):=by
       intro t ht;by_cases e:t=i
       ·rw [e];exact hz
       ·exact Ae.out t (by omega)
      have HZ:Hid (_=_):=hz;clear hz;generalize refs.getD i 0=z at*
      go_wp2_with fail;refine (jd _ _ _ _).mono ?_;rintro e w' ⟨rfl,rfl⟩;rw [HZ.out];go_wp2
      go_round
      case rel=>exact ⟨i+1,by omega,by go_num,HN⟩
      case measure=>simp [RowKit.intOf];omega
    ·have HE:Hid (okB ⟨k,ints,refs⟩=true):=iI HK.out h5 h6 xP.out (fun t ht=>Ae.out t (by simp only at ht;omega));go_wp2;go_ret;exact ⟨qd HE.out.symm,hbW⟩
end Go.Proofs.YtjkckhfddgeboaaGreatDoor
namespace Go.Proofs.YtjkckhfddgeboaaGreatDoor
def fU:Nat→Nat→List Int
 | 0,m=>[(m:Int)]
 | f+1,m=>if m<128 then [(m:Int)] else ((m % 128+128:Nat):Int)::fU f (m / 128)
def groups (m:Nat):List Int:=fU 64 m
def Ph (n:Int):Int:=if n > 1000000000000 then 1000000000000 else if n < -1000000000000 then -1000000000000 else n
def zig (n:Int):Nat:=if 0≤Ph n then (2*Ph n).toNat else (-2*Ph n-1).toNat
def Mi (n:Int):List Int:=groups (zig n)
end Go.Proofs.YtjkckhfddgeboaaGreatDoor
namespace Go.Proofs.YtjkckhfddgeboaaGreatDoor
open Go.RowKit
def fV (l:List Int):List Int:=Mi l.length++l.flatMap Mi
def iJ (o:xk):List Int:=if okB o then (Mi o.kind++fV o.ints)++fV o.refs else []
end Go.Proofs.YtjkckhfddgeboaaGreatDoor
namespace Go.Proofs.YtjkckhfddgeboaaGreatDoor
def lead:List Int→Nat
 | []=>0
 | z::r=>if 128≤z then lead r+1 else 0
def valOf:List Int→Nat
 | []=>0
 | z::r=>(z % 128).toNat+128*valOf r
def qaa (m:Nat):Int:=if m % 2=0 then ((m / 2:Nat):Int) else -((m / 2:Nat):Int)-1
def qab (L:List Int):Option (Int × Nat):=
 if lead L<L.length∧lead L<6∧¬ (0<lead L∧L.getD (lead L) 0=0)∧valOf (L.take (lead L+1))≤2000000000000 then some (qaa (valOf (L.take (lead L+1))),lead L+1) else none
def qac (zs:List Int) (p:Int):Option (Int × Nat):=if 0≤p then (qab (zs.drop p.toNat)).map fun r=>(r.1,p.toNat+r.2) else none
end Go.Proofs.YtjkckhfddgeboaaGreatDoor
namespace Go.Proofs.YtjkckhfddgeboaaGreatDoor
def Ou (x:Nat):Nat:=if x % 2=1 then (x / 2) ^^^ 3988292384 else x / 2
def fZ:Nat→Nat→Nat
 | 0,x=>x
 | k+1,x=>Ou (fZ k x)
def Ee (x:Nat) (c:Nat):Nat:=fZ 8 (x ^^^ c)
def qad (zs:List Int) (k:Nat):Nat:=(zs.take k).foldl (fun x c=>Ee x c.toNat) 4294967295
def qae (zs:List Int):Nat:=4294967295 ^^^ qad zs zs.length
end Go.Proofs.YtjkckhfddgeboaaGreatDoor
namespace Go.Proofs.YtjkckhfddgeboaaGreatDoor
open Go.RowKit
def xK (zs:List Int) (s:Int × Bool):Int × (Int × Bool):=match s.2,qac zs s.1 with
 | false,some r=>(r.1,((r.2:Int),false))
 | _,_=>(0,(s.1,true))
def numsOf (zs:List Int):Nat→List Int→Int × Bool→List Int × (Int × Bool)
 | 0,l,s=>(l,s)
 | k+1,l,s=>if s.2 then (l,s) else numsOf zs k (l++[(xK zs s).1]) (xK zs s).2
def qaf (b:Bool) (s:Int × Bool):Int × Bool:=(s.1,s.2 || b)
def Ug (zs:List Int) (most:Int) (s:Int × Bool):List Int × (Int × Bool):=
 numsOf zs (xK zs s).1.toNat [] (qaf (!inB (xK zs s).1 0 most) (xK zs s).2)
end Go.Proofs.YtjkckhfddgeboaaGreatDoor
namespace Go.Proofs.YtjkckhfddgeboaaGreatDoor
end Go.Proofs.YtjkckhfddgeboaaGreatDoor
namespace Go.Proofs.YtjkckhfddgeboaaGreatDoor
open Go.RowKit
def Mj (zs:List Int):xk × Bool:=
 (⟨(xK zs (0,false)).1,(Ug zs 5 (xK zs (0,false)).2).1,(Ug zs 5 (Ug zs 5 (xK zs (0,false)).2).2).1⟩,(Ug zs 5 (Ug zs 5 (xK zs (0,false)).2).2).2.2)
def qdW (b:List Int):Option xk:=if (Mj b).2=false∧okB (Mj b).1=true∧iJ (Mj b).1=b then some (Mj b).1 else none
def Uu:xk:=⟨0,[],[]⟩
def ru (b:List Int):xk × Bool:=match qdW b with
 | some o=>(o,true)
 | none=>(Uu,false)
def Bytes (zs:List Int):Prop:=∀ z∈zs,0≤z∧z<256
theorem Bytes.drop {zs:List Int} (h:Bytes zs) (p:Nat):Bytes (zs.drop p):=fun z hz=>h z (List.mem_of_mem_drop hz)
def Ef (x k:Nat):Int:=((x / 256 ^ k % 256:Nat):Int)
def Ov (x k:Nat):List Int:=(List.range k).map (Ef x)
def four (x:Nat):List Int:=Ov x 4
def qd5 (zs:List Int):List Int:=(Mi zs.length++zs)++four (qae zs)
def Fit (ss:List qf):Prop:=∀ s∈ss,s.v.o.ints.length≤1099511627776∧s.v.o.refs.length≤1099511627776
def KM:jy:=⟨false,Uu⟩
def qE (s:jy):Bool:=if s.has then okB s.o else (decide (s.o.kind=0) && (decide (s.o.ints.length=0) && decide (s.o.refs.length=0)))
def ze (n:Int) (vs:List jy):Bool:=vs.all qE && inB n 0 1000000
theorem Gz {s:jy} (h:s.has=true):qE s=okB s.o:=by unfold qE;rw [if_pos h]
def nz (zs:List Int) (s:Int × Bool):jy × (Int × Bool):=
 if (xK zs s).2.2=true∨(xK zs s).1=0 then (KM,(xK zs s).2) else
 if (xK zs s).1<0∨(zs.length:Int)-(xK zs s).2.1<(xK zs s).1 then (KM,((xK zs s).2.1,true)) else
 (⟨true,(ru ((zs.drop (xK zs s).2.1.toNat).take (xK zs s).1.toNat)).1⟩,((xK zs s).2.1+(xK zs s).1,!(ru ((zs.drop (xK zs s).2.1.toNat).take (xK zs s).1.toNat)).2))
theorem Tj {ss:List qf} (h:Fit ss) {k:Nat} (hk:k<ss.length):(ss.getD k qh).v.o.ints.length≤1099511627776∧(ss.getD k qh).v.o.refs.length≤1099511627776:=h _ (jV hk)
theorem Wz (ss:List qf) (h4:ss.length=4) (lo hi:Nat) (k0:Int) (w:World) (ho:qG w lo hi ss) (hl:Fit ss) (h0:0≤k0) (hk:k0≤10995116277760) (hhi:hi≤w.heap.size):
  Calls Tryz.prog 291 #[.agg (cellsS ss).toArray,.int .i64 k0] w fun e w'=>e=.returned (.int .i64 (k0+qO ss))∧qG w' lo hi (jH ss k0)∧Touch (ss.flatMap qf.blocks) w w':=by
 obtain ⟨W,hW,b0,hbW,qp⟩:=qx w (cellsS ss) 29;have H4:Hid (ss.length=4):=h4;have HB:Hid (w.heap.size∉ss.flatMap qf.blocks):=fun hh=>by have:=(ho.ql _ hh).2;omega
 clear qp h4;go_enter Tryz.func291,Tryz.ntmps291;go_wp2_with fail;rw [hW.out];clear hW;go_loopw [1,5] (fun kk i wr=>∃ (j:Nat) (c:Nat),i=.int .i64 j∧kk=.int .i64 (k0+c)∧j≤4∧Hid (c=qO (ss.take j))∧qG wr lo hi (jH (ss.take j) k0++ss.drop j)∧Touch (ss.flatMap qf.blocks) W wr)
  (fun _ i _=>4-(intOf i).toNat)
 case atStart=>exact ⟨0,0,rfl,by simp,by omega,rfl,by simpa [jH] using ho.below hbW,Touch.refl _ _⟩
 case round=>
  obtain ⟨j,c,rfl,rfl,hj,hcj,hown,htr⟩:=hrel;have ZQ:=b0.touch htr HB.out;have hc0:c≤8796093022208:=by
   have h1:=X0 (ss.take j) 1099511627776 (fun s hs=>hl s (List.mem_of_mem_take hs));rw [List.length_take] at h1;have h2:min j ss.length*(2*1099511627776)≤4*(2*1099511627776):=Nat.mul_le_mul_right _ (by omega);rw [hcj.out];omega
  by_cases hlt:j<4
  ·have hkl:j<ss.length:=by rw [H4.out];exact hlt
   obtain ⟨c0,c1,c2,c3,_⟩:=ZQ.slot j hkl;obtain ⟨hd,htk⟩:=take_split ss j hkl;have hlk:=Tj hl hkl;rw [hd] at hown;have HC:Hid (qO (ss.take (j+1))=qO (ss.take j)+(ss.getD j qh).count):=by rw [Hid,htk,UA]
   have HM:Hid (jH (ss.take (j+1)) k0++ss.drop (j+1)=jH (ss.take j) k0++(ss.getD j qh).mark (k0+qO (ss.take j))::ss.drop (j+1)):=by rw [Hid,htk,P5];simp
   have HS:Hid (∀ k∈(ss.getD j qh).blocks,k∈ss.flatMap qf.blocks):=fun k hk=>List.mem_flatMap.2 ⟨_,jV hkl,hk⟩
   have hos:(ss.getD j qh).own wr lo hi:=hown.each _ (by simp);clear hd htk;generalize ss.getD j qh=s at*
   have C:=Y4 s lo hi (k0+c) wr hos (by omega) hlk.1 hlk.2 (by omega);simp only [qf.cells] at C;have hi0:(0:Int)≤(j:Int):=by omega
   have hi4:(j:Int)<4:=by omega
   go_wp2_with fail;refine C.mono ?_;clear C c0 c1 c2 c3;rintro e w1 ⟨rfl,ho1,ht1⟩;have HO:qG w1 lo hi (jH (ss.take (j+1)) k0++ss.drop (j+1)):=by
    rw [HM.out,← hcj.out];exact hown.replace ht1 ho1 (Uz _ _)
   have HT:Touch (ss.flatMap qf.blocks) W w1:=htr.trans (ht1.mono HS.out);have XA:Hid (c+s.count=qO (ss.take (j+1))):=by rw [Hid,HC.out,hcj.out]
   clear hown ho1 ht1 hos;go_wp2_with fail;go_roundw
   case rel=>exact ⟨j+1,c+s.count,by go_num,by congr 1;omega,by omega,XA,HO,HT⟩
   case measure=>simp [intOf];omega
  ·obtain rfl:j=4:=by omega
   have hkk:¬ ((4:Nat):Int)<4:=by omega
   have HE:Hid (ss.take 4=ss∧ss.drop 4=[]):=⟨List.take_of_length_le (by rw [H4.out];omega),List.drop_eq_nil_of_le (by rw [H4.out];omega)⟩;go_wp2;go_ret;refine ⟨ja (by rw [hcj.out,HE.out.1]),?_,(Touch.of_below hbW).trans htr⟩;rw [HE.out.1,HE.out.2,List.append_nil] at hown;exact hown
theorem dG (ss:List qf) (h4:ss.length=4) (lo hi:Nat) (k0:Int) (w:World) (ho:qG w lo hi (jH ss k0)) (hl:Fit ss) (h0:0≤k0) (hk:k0≤10995116277760):
  Calls Tryz.prog 292 #[.agg (cellsS ss).toArray,.int .i64 k0] w fun e w'=>e=.returned (.int .i64 (k0+qO ss))∧Below w.heap.size w w':=by
 obtain ⟨W,hW,b0,hbW,qp⟩:=qx w (cellsS ss) 29;have H4:Hid (ss.length=4):=h4;clear qp h4;go_enter Tryz.func292,Tryz.ntmps292;go_wp2_with fail;rw [hW.out];clear hW;go_loopw [1,5] (fun kk i wr=>∃ (j:Nat) (c:Nat),i=.int .i64 j∧kk=.int .i64 (k0+c)∧j≤4∧Hid (c=qO (ss.take j))∧Below W.heap.size W wr)
  (fun _ i _=>4-(intOf i).toNat)
 case atStart=>exact ⟨0,0,rfl,by simp,by omega,rfl,Below.refl _ _⟩
 case round=>
  obtain ⟨j,c,rfl,rfl,hj,hcj,hbl⟩:=hrel;have ZQ:=b0.below hbl b0.lt;have Jv:Below w.heap.size w wr:=hbW.trans (hbl.mono hbW.size);have hc0:c≤8796093022208:=by
   have h1:=X0 (ss.take j) 1099511627776 (fun s hs=>hl s (List.mem_of_mem_take hs));rw [List.length_take] at h1;have h2:min j ss.length*(2*1099511627776)≤4*(2*1099511627776):=Nat.mul_le_mul_right _ (by omega);rw [hcj.out];omega
  by_cases hlt:j<4
  ·have hkl:j<ss.length:=by rw [H4.out];exact hlt
   obtain ⟨c0,c1,c2,c3,_⟩:=ZQ.slot j hkl;obtain ⟨hd,htk⟩:=take_split ss j hkl;have hlk:=Tj hl hkl;have HC:Hid (qO (ss.take (j+1))=qO (ss.take j)+(ss.getD j qh).count):=by rw [Hid,htk,UA]
   have hos:((ss.getD j qh).mark (k0+c)).own wr lo hi:=by
    have:=ho.each _ (Rb ss k0 j hkl);rw [← hcj.out] at this;exact OwnO.below this Jv
   clear hd htk;generalize ss.getD j qh=s at*
   have C:=Xx s lo hi (k0+c) wr hos (by omega) hlk.1 hlk.2 (by omega);simp only [qf.cells] at C;have hi0:(0:Int)≤(j:Int):=by omega
   have hi4:(j:Int)<4:=by omega
   go_wp2_with fail;refine C.mono ?_;clear C c0 c1 c2 c3;rintro e w1 ⟨rfl,hb1⟩;have hnn:¬ (k0+(c:Int)+(s.count:Int))<0:=by omega
   have XA:Hid (c+s.count=qO (ss.take (j+1))):=by rw [Hid,HC.out,hcj.out]
   clear hos;go_wp2_with fail;go_roundw
   case rel=>exact ⟨j+1,c+s.count,by go_num,by congr 1;omega,by omega,XA,hbl.trans (hb1.mono hbl.size)⟩
   case measure=>simp [intOf];omega
  ·obtain rfl:j=4:=by omega
   have hkk:¬ ((4:Nat):Int)<4:=by omega
   have HE:Hid (ss.take 4=ss):=List.take_of_length_le (by rw [H4.out];omega);go_wp2;go_ret;exact ⟨ja (by rw [hcj.out,HE.out]),Jv⟩
theorem pG (p:qw) (h4:p.ss.length=4) (lo hi:Nat) (k0:Int) (w:World) (ho:qG w lo hi p.ss) (hl:Fit p.ss) (h0:0≤k0) (hk:k0≤10995116277760) (hhi:hi≤w.heap.size):
  Calls Tryz.prog 224 #[.agg p.cells.toArray,.int .i64 k0] w fun e w'=>e=.returned (.int .i64 (k0+qO p.ss))∧qG w' lo hi (jH p.ss k0)∧Touch (p.ss.flatMap qf.blocks) w w':=by
 obtain ⟨n,ss⟩:=p;simp only [qw.cells] at*
 obtain ⟨W,hW,b0,hbW,qp⟩:=qx w (.int .i64 n::cellsS ss) 31;have hrg0:W.rangeAt w.heap.size 1 (cellsS ss):=Box.range [.int .i64 n] (cellsS ss) [] (by simpa using b0);have hi0:(Tryz.prog.info? 29).map (·.size)=some (cellsS ss).length:=by rw [jq,h4];kernel_rfl
 have hs0:=hbW.size;go_enter Tryz.func224,Tryz.ntmps224;go_wp2_with (first | (guard_target=wpList _ _ _ (Oper.mk (some 6) _ _ _ _ _::_) _ _;refine wpList_load_mid rfl 29 (.tmp 5) rfl w.heap.size 1 rfl (cellsS ss) _ (by rw [hW.out];exact hrg0) Tryz.underlying29 rfl hi0 ?_) | fail);rw [hW.out];clear hW hrg0 hi0 qp;refine (Wz ss h4 lo hi k0 W (ho.below hbW) hl h0 hk (by omega)).mono ?_;rintro e w1 ⟨rfl,ho1,ht1⟩;go_wp2;go_ret;exact ⟨rfl,ho1,(Touch.of_below hbW).trans ht1⟩
theorem M0 (p:qw) (h4:p.ss.length=4) (lo hi:Nat) (k0:Int) (w:World) (ho:qG w lo hi (jH p.ss k0)) (hl:Fit p.ss) (h0:0≤k0) (hk:k0≤10995116277760):
  Calls Tryz.prog 227 #[.agg p.cells.toArray,.int .i64 k0] w fun e w'=>e=.returned (.int .i64 (k0+qO p.ss))∧Below w.heap.size w w':=by
 obtain ⟨n,ss⟩:=p;simp only [qw.cells] at*
 obtain ⟨W,hW,b0,hbW,qp⟩:=qx w (.int .i64 n::cellsS ss) 31;have hrg0:W.rangeAt w.heap.size 1 (cellsS ss):=Box.range [.int .i64 n] (cellsS ss) [] (by simpa using b0);have hi0:(Tryz.prog.info? 29).map (·.size)=some (cellsS ss).length:=by rw [jq,h4];kernel_rfl
 go_enter Tryz.func227,Tryz.ntmps227;go_wp2_with (first | (guard_target=wpList _ _ _ (Oper.mk (some 6) _ _ _ _ _::_) _ _;refine wpList_load_mid rfl 29 (.tmp 5) rfl w.heap.size 1 rfl (cellsS ss) _ (by rw [hW.out];exact hrg0) Tryz.underlying29 rfl hi0 ?_) | fail);rw [hW.out];clear hW hrg0 hi0 qp;refine (dG ss h4 lo hi k0 W (ho.below hbW) hl h0 hk).mono ?_;rintro e w1 ⟨rfl,hb1⟩;have hnn:¬ (k0+(qO ss:Int))<0:=by omega
 go_wp2;go_ret;exact ⟨rfl,hbW.trans (hb1.mono hbW.size)⟩
theorem uH (s t:qf) (he:t.v=s.v) (w:World) (hs:s.reads w) (ht:t.reads w) (JM:s.v.o.ints.length≤1099511627776) (Q7:s.v.o.refs.length≤1099511627776):
  Calls Tryz.prog 33 #[.agg s.cells.toArray,.agg t.cells.toArray] w fun e w'=>e=.returned (.bool true)∧Below w.heap.size w w':=by
 obtain ⟨v,aI,cI,aR,cR⟩:=s;obtain ⟨v',bI,dI,bR,dR⟩:=t;simp only at he;subst he;obtain ⟨h,⟨k,ints,refs⟩⟩:=v';simp only [qf.cells,qf.reads] at*
 obtain ⟨W,hW,b0,b1,hbW,qp⟩:=jf w [.bool h,.int .i64 k,.slice aI ints.length cI,.slice aR refs.length cR] [.bool h,.int .i64 k,.slice bI ints.length dI,.slice bR refs.length dR] 28 28;go_enter Tryz.func33,Tryz.ntmps33;go_wp2_with fail;rw [hW.out];clear hW;refine (Bc ⟨k,ints,refs⟩ aI cI aR cR bI dI bR dR W (hs.below hbW) (ht.below hbW) JM Q7).mono ?_;rintro e w1 ⟨rfl,hb1⟩;go_wp2;go_ret;exact ⟨rfl,hbW.trans (hb1.mono hbW.size)⟩
theorem Eg {ss ts:List qf} (h:ts.map (·.v)=ss.map (·.v)) (k:Nat):(ts.getD k qh).v=(ss.getD k qh).v:=by
 have:=congrArg (fun l=>l[k]?) h;simp only [List.getElem?_map] at this;simp only [List.getD];cases h1:ts[k]? <;>cases h2:ss[k]? <;>simp_all
theorem H6 (ss ts:List qf) (h4:ss.length=4) (he:ts.map (·.v)=ss.map (·.v)) (w:World) (hs:jK w ss) (ht:jK w ts) (hl:∀ s∈ss,s.v.o.ints.length≤1099511627776∧s.v.o.refs.length≤1099511627776):
  Calls Tryz.prog 288 #[.agg (cellsS ss).toArray,.agg (cellsS ts).toArray] w fun e w'=>e=.returned (.bool true)∧Below w.heap.size w w':=by
 have htl:ts.length=4:=by have:=congrArg List.length he;simp only [List.length_map] at this;omega
 obtain ⟨W,hW,b0,b1,hbW,qp⟩:=jf w (cellsS ss) (cellsS ts) 29 29;have H4:Hid (ss.length=4∧ts.length=4):=⟨h4,htl⟩;have HE:Hid _:=he;clear qp h4 htl he;go_enter Tryz.func288,Tryz.ntmps288;go_wp2_with fail;rw [hW.out];clear hW;go_loopw [5] (fun i wr=>∃ (k:Nat),i=.int .i64 k∧k≤4∧Below W.heap.size W wr)
  (fun i _=>4-(RowKit.intOf i).toNat)
 case atStart=>exact ⟨0,rfl,by omega,Below.refl _ _⟩
 case round=>
  obtain ⟨k,rfl,hk,hbl⟩:=hrel;by_cases hlt:k<4
  ·have hkl:k<ss.length:=by rw [H4.out.1];exact hlt
   have hkt:k<ts.length:=by rw [H4.out.2];exact hlt
   have hi0:(0:Int)≤(k:Int):=by omega
   have hi4:(k:Int)<4:=by omega
   have HC:Hid (∀ w'',Below W.heap.size W w''→_∧_):=fun w'' hh=>⟨(b0.below hh b0.lt).slot k hkl,(b1.below hh b1.lt).slot k hkt⟩
   have hsk:=fun w'' (hh:Below W.heap.size W w'')=>(hs _ (jV hkl)).below (hbW.trans (hh.mono hbW.size))
   have htk:=fun w'' (hh:Below W.heap.size W w'')=>(ht _ (jV hkt)).below (hbW.trans (hh.mono hbW.size))
   have hlk:=hl _ (jV hkl);have hv:=Eg HE.out k;generalize ss.getD k qh=s at*
   generalize ts.getD k qh=t at*
   have HS:Hid (∀ w1,Below W.heap.size W w1→(w1.cell? ⟨w.heap.size,k*4,none⟩=some (.bool s.v.has)∧w1.cell? ⟨w.heap.size,k*4+1,none⟩=some (.int .i64 s.v.o.kind)∧w1.cell? ⟨w.heap.size,k*4+2,none⟩=some (.slice s.aI s.v.o.ints.length s.cI)∧w1.cell? ⟨w.heap.size,k*4+3,none⟩=some (.slice s.aR s.v.o.refs.length s.cR))∧(w1.cell? ⟨(w.heap.size+1),k*4,none⟩=some (.bool t.v.has)∧w1.cell? ⟨(w.heap.size+1),k*4+1,none⟩=some (.int .i64 t.v.o.kind)∧w1.cell? ⟨(w.heap.size+1),k*4+2,none⟩=some (.slice t.aI t.v.o.ints.length t.cI)∧w1.cell? ⟨(w.heap.size+1),k*4+3,none⟩=some (.slice t.aR t.v.o.refs.length t.cR))):=fun w1 hh=>by
    obtain ⟨⟨c0,c1,c2,c3,_⟩,⟨d0,d1,d2,d3,_⟩⟩:=HC.out w1 hh;exact ⟨⟨c0,c1,c2,c3⟩,d0,d1,d2,d3⟩
   have HR:Hid (_∧_∧_):=⟨hsk,htk,hlk⟩;have hh:=HS.out wr hbl;have HV:Hid (t.v=s.v):=hv;clear HC hsk htk hlk hv;go_wp2_with fail
   go_region_held3 (fun w1=>(w1.cell? ⟨w.heap.size,k*4,none⟩=some (.bool s.v.has)∧w1.cell? ⟨w.heap.size,k*4+1,none⟩=some (.int .i64 s.v.o.kind)∧w1.cell? ⟨w.heap.size,k*4+2,none⟩=some (.slice s.aI s.v.o.ints.length s.cI)∧w1.cell? ⟨w.heap.size,k*4+3,none⟩=some (.slice s.aR s.v.o.refs.length s.cR))∧(w1.cell? ⟨(w.heap.size+1),k*4,none⟩=some (.bool t.v.has)∧w1.cell? ⟨(w.heap.size+1),k*4+1,none⟩=some (.int .i64 t.v.o.kind)∧w1.cell? ⟨(w.heap.size+1),k*4+2,none⟩=some (.slice t.aI t.v.o.ints.length t.cI)∧w1.cell? ⟨(w.heap.size+1),k*4+3,none⟩=some (.slice t.aR t.v.o.refs.length t.cR)))
    (first | exact HS.out _ hw2 | go_keep | fail)
    ((first | (go_at_call 33;refine (uH s t HV.out _ (HR.out.1 _ hbl.drew) (HR.out.2.1 _ hbl.drew) HR.out.2.2.1 HR.out.2.2.2).mono ?_;rintro e w2 ⟨rfl,hb2⟩;have hw2:Below W.heap.size W w2:=(hbl.drew).trans (hb2.mono hbl.size)) | fail))
   all_goals
    go_wp2_with fail;go_roundw
    case rel=>exact ⟨k+1,by go_num,by omega,hw2⟩
    case measure=>simp [RowKit.intOf];omega
  ·have hkk:¬ (k:Int)<4:=by omega
   go_wp2;go_ret;exact ⟨rfl,hbW.trans (hbl.mono hbW.size)⟩
theorem UB (n:Int) (ss ts:List qf) (h4:ss.length=4) (he:ts.map (·.v)=ss.map (·.v)) (w:World) (hs:jK w ss) (ht:jK w ts) (hl:∀ s∈ss,s.v.o.ints.length≤1099511627776∧s.v.o.refs.length≤1099511627776):
  Calls Tryz.prog 219 #[.agg (qw.cells ⟨n,ss⟩).toArray,.agg (qw.cells ⟨n,ts⟩).toArray] w fun e w'=>e=.returned (.bool true)∧Below w.heap.size w w':=by
 have htl:ts.length=4:=by have:=congrArg List.length he;simp only [List.length_map] at this;omega
 simp only [qw.cells];obtain ⟨W,hW,b0,b1,hbW,qp⟩:=jf w (.int .i64 n::cellsS ss) (.int .i64 n::cellsS ts) 31 31;have hrg0:W.rangeAt w.heap.size 1 (cellsS ss):=Box.range [.int .i64 n] (cellsS ss) [] (by simpa using b0);have hrg1:W.rangeAt (w.heap.size+1) 1 (cellsS ts):=Box.range [.int .i64 n] (cellsS ts) [] (by simpa using b1);have hi0:(Tryz.prog.info? 29).map (·.size)=some (cellsS ss).length:=by rw [jq,h4];kernel_rfl
 have hi1:(Tryz.prog.info? 29).map (·.size)=some (cellsS ts).length:=by rw [jq,htl];kernel_rfl
 have HI:Hid (_∧_):=⟨hi0,hi1⟩;have HR:Hid (_∧_):=⟨hrg0,hrg1⟩;clear hi0 hi1 hrg0 hrg1 qp htl;go_enter Tryz.func219,Tryz.ntmps219;go_wp2_with (first | (guard_target=wpList _ _ _ (Oper.mk (some 11) _ _ _ _ _::_) _ _;refine wpList_load_mid rfl 29 (.tmp 10) rfl w.heap.size 1 rfl (cellsS ss) _ (by rw [hW.out];exact HR.out.1) Tryz.underlying29 rfl HI.out.1 ?_) | (guard_target=wpList _ _ _ (Oper.mk (some 13) _ _ _ _ _::_) _ _;refine wpList_load_mid rfl 29 (.tmp 12) rfl (w.heap.size+1) 1 rfl (cellsS ts) _ (by rw [hW.out];exact HR.out.2) Tryz.underlying29 rfl HI.out.2 ?_) | fail);rw [hW.out];clear hW;refine (H6 ss ts h4 he W (hs.below hbW) (ht.below hbW) hl).mono ?_;rintro e w1 ⟨rfl,hb1⟩;go_wp2;go_ret;exact ⟨rfl,hbW.trans (hb1.mono hbW.size)⟩
end Go.Proofs.YtjkckhfddgeboaaGreatDoor
namespace Go.Proofs.YtjkckhfddgeboaaGreatDoor
open Go.RowKit
structure qC where
 tx:Int
 last:Int
 aborts:Bool
def qC.cells (l:qC):List Value:=[.int .i64 l.tx,.int .i64 l.last,.bool l.aborts]
def qA:qC:=⟨0,0,false⟩
def jD (ls:List qC):List Value:=ls.flatMap qC.cells
theorem Js (ls:List qC):(jD ls).length=ls.length*3:=by
 induction ls with
 | nil=>rfl
 | cons s r ih=>simp only [jD,List.flatMap_cons,List.length_append,qC.cells,List.length_cons,List.length_nil] at *;omega
theorem gD (a b:List qC):jD (a++b)=jD a++jD b:=by simp [jD]
theorem Q5 (ls:List qC) (k j:Nat) (hk:k<ls.length) (hj:j<3):(jD ls)[k*3+j]? =(ls.getD k qA).cells[j]? :=by
 induction ls generalizing k with
 | nil=>simp at hk
 | cons s r ih=>
  have e:jD (s::r)=s.cells++jD r:=by simp [jD]
  have l3:s.cells.length=3:=rfl;rw [e];cases k with
  | zero=>rw [List.getElem?_append_left (by rw [l3];omega)];simp
  | succ k=>
   rw [List.getElem?_append_right (by rw [l3];omega),l3];have:=ih k (by simpa using hk);rw [show (k+1)*3+j-3=k*3+j by omega,this];simp
theorem Cs (ls:List qC) (k:Nat) (hk:k<ls.length) (t:qC):
  (((jD ls).set (k*3) (.int .i64 t.tx)).set (k*3+1) (.int .i64 t.last)).set (k*3+2) (.bool t.aborts)=jD (ls.set k t):=by
 induction ls generalizing k with
 | nil=>simp at hk
 | cons s r ih=>
  cases k with
  | zero=>simp [jD,qC.cells]
  | succ k=>
   have:=ih k (by simpa using hk);have e2:∀ x,jD (s::x)=s.cells++jD x:=fun x=>by simp [jD]
   have l3:s.cells.length=3:=rfl;rw [e2,List.set_append_right _ _ (by rw [l3];omega),List.set_append_right _ _ (by rw [l3];omega),List.set_append_right _ _ (by rw [l3];omega),l3,show (k+1)*3-3=k*3 by omega,show (k+1)*3+1-3=k*3+1 by omega,show (k+1)*3+2-3=k*3+2 by omega,this,List.set_cons_succ,e2]
def jW (w:World) (a:Option Addr) (ls:List qC):Prop:=ls≠[]→∃ b off,a=some ⟨b,off,none⟩∧∀ k,k<ls.length→w.cell? ⟨b,off+k*3,none⟩=some (.int .i64 (ls.getD k qA).tx)∧w.cell? ⟨b,off+k*3+1,none⟩=some (.int .i64 (ls.getD k qA).last)∧w.cell? ⟨b,off+k*3+2,none⟩=some (.bool (ls.getD k qA).aborts)
theorem jW.nil (w:World) (a:Option Addr):jW w a []:=fun h=>absurd rfl h
theorem jW.below {w w':World} {a:Option Addr} {ls:List qC} (h:jW w a ls) (hb:Below w.heap.size w w'):jW w' a ls:=by
 intro hne;obtain ⟨b,off,ha,hc⟩:=h hne;refine ⟨b,off,ha,fun k hk=>?_⟩;obtain ⟨h0,h1,h2⟩:=hc k hk;have hlt:=block_lt h0;exact ⟨by rw [hb.cell (p:=⟨b,off+k*3,none⟩) hlt];exact h0,by rw [hb.cell (p:=⟨b,off+k*3+1,none⟩) hlt];exact h1,by rw [hb.cell (p:=⟨b,off+k*3+2,none⟩) hlt];exact h2⟩
theorem jW.cases {w:World} {a:Option Addr} {ls:List qC} (h:jW w a ls):ls=[]∨∃ b off,a=some ⟨b,off,none⟩∧0<ls.length∧∀ k,k<ls.length→w.cell? ⟨b,off+k*3,none⟩=some (.int .i64 (ls.getD k qA).tx)∧w.cell? ⟨b,off+k*3+1,none⟩=some (.int .i64 (ls.getD k qA).last)∧w.cell? ⟨b,off+k*3+2,none⟩=some (.bool (ls.getD k qA).aborts):=by
 by_cases e:ls=[]
 ·exact .inl e
 ·obtain ⟨b,off,ha,hc⟩:=h e;exact .inr ⟨b,off,ha,List.length_pos_iff.2 e,hc⟩
def OwnL (w:World) (lo hi:Nat) (a:Option Addr) (c:Nat) (ls:List qC):Prop:=
 w.ownsRow lo 118 3 (.slice a ls.length c) ls.length (jD ls)∧hi≤w.heap.size∧∀ k,(Value.slice a ls.length c).ownBlock=some k→k<hi
theorem OwnL.lt {w:World} {lo hi:Nat} {a:Option Addr} {c:Nat} {ls:List qC} (h:OwnL w lo hi a c ls):∀ k,(Value.slice a ls.length c).ownBlock=some k→lo≤k∧k<hi:=fun k hk=>⟨(h.1.lt k hk).1,h.2.2 k hk⟩
theorem OwnL.touch {w w':World} {lo hi:Nat} {a:Option Addr} {c:Nat} {ls:List qC} {bl:List Nat} (h:OwnL w lo hi a c ls) (ht:Touch bl w w') (hd:∀ k,(Value.slice a ls.length c).ownBlock=some k→k∉bl):OwnL w' lo hi a c ls:=
 ⟨jE h.1 (fun k hk=>ht.block k (h.1.lt k hk).2 (hd k hk)),Nat.le_trans h.2.1 ht.size,h.2.2⟩
theorem OwnL.within {w w':World} {lo hi l r:Nat} {a:Option Addr} {c:Nat} {ls:List qC} (h:OwnL w lo hi a c ls) (hw:Within l r w w') (hd:hi≤l∨r≤lo):OwnL w' lo hi a c ls:=
 ⟨jE h.1 (fun k hk=>hw.block k (by have:=h.2.2 k hk;have:=h.2.1;omega) (by have:=h.lt k hk;omega)),Nat.le_trans h.2.1 hw.size,h.2.2⟩
theorem OwnL.below {w w':World} {lo hi:Nat} {a:Option Addr} {c:Nat} {ls:List qC} (h:OwnL w lo hi a c ls) (hb:Below w.heap.size w w'):OwnL w' lo hi a c ls:=
 h.within (Within.of_below (lo:=w.heap.size) (hi:=w.heap.size) hb) (.inl h.2.1)
theorem OwnL.widen {w:World} {lo hi lo' hi':Nat} {a:Option Addr} {c:Nat} {ls:List qC} (h:OwnL w lo hi a c ls) (h1:lo'≤lo) (h2:hi≤hi') (h3:hi'≤w.heap.size):OwnL w lo' hi' a c ls:=
 ⟨kM h.1 (fun k hk=>by have:=h.lt k hk;omega),h3,fun k hk=>by have:=h.lt k hk;omega⟩
theorem U6 (w:World) (lo hi:Nat) (h:hi≤w.heap.size):OwnL w lo hi none 0 []:=⟨⟨by simp [jD],.inl ⟨rfl,rfl⟩⟩,h,fun k hk=>by cases hk⟩
theorem OwnL.XZ {w:World} {lo hi:Nat} {a:Option Addr} {c:Nat} {ls:List qC} (h:OwnL w lo hi a c ls):a=none→c=0:=by
 intro ha;rcases h.1.2 with ⟨hv,_⟩ | ⟨g,cap,cur,hv,_⟩
 ·simp only [Value.slice.injEq] at hv;exact hv.2.2
 ·simp [ha] at hv
theorem Wt {w:World} {base g n cap:Nat} {ls:List qC} (h:w.ownsRow base 118 3 (.slice (some ⟨g,0,none⟩) n cap) n (jD ls)) (hn:ls.length=n) (k:Nat) (hk:k<n):
  w.cell? ⟨g,k*3,none⟩=some (.int .i64 (ls.getD k qA).tx)∧w.cell? ⟨g,k*3+1,none⟩=some (.int .i64 (ls.getD k qA).last)∧w.cell? ⟨g,k*3+2,none⟩=some (.bool (ls.getD k qA).aborts)∧(∀ i,w.frozen? ⟨g,i,none⟩=false):=by
 have a0:=Q5 ls k 0 (by omega) (by omega);have a1:=Q5 ls k 1 (by omega) (by omega);have a2:=Q5 ls k 2 (by omega) (by omega);simp only [qC.cells,Nat.add_zero,List.getElem?_cons_zero,List.getElem?_cons_succ] at a0 a1 a2;exact ⟨by rw [h.cellAt (k*3) (by omega)];exact a0,by rw [h.cellAt (k*3+1) (by omega)];exact a1,by rw [h.cellAt (k*3+2) (by omega)];exact a2,fun i=>h.frozenAt i⟩
theorem GD {w:World} {base g n cap:Nat} {ls:List qC} (h:w.ownsRow base 118 3 (.slice (some ⟨g,0,none⟩) n cap) n (jD ls)) (hn:ls.length=n) (k:Nat) (hk:k<n) (t:qC):
  ∃ W,Hid (((w.setCell ⟨g,k*3,none⟩ (.int .i64 t.tx)).setCell ⟨g,k*3+1,none⟩ (.int .i64 t.last)).setCell ⟨g,k*3+2,none⟩ (.bool t.aborts)=W)∧W.ownsRow base 118 3 (.slice (some ⟨g,0,none⟩) n cap) n (jD (ls.set k t))∧w.grownBy W (some g):=by
 have s1:=h.stored (k*3) (.int .i64 t.tx);have s2:=s1.1.stored (k*3+1) (.int .i64 t.last);have s3:=s2.1.stored (k*3+2) (.bool t.aborts);refine ⟨_,rfl,?_,grownBy_trans (grownBy_trans s1.2 s2.2) s3.2⟩;have:=s3.1;rw [Cs ls k (by omega) t] at this;exact this
theorem OwnL.reads {w:World} {lo hi:Nat} {a:Option Addr} {c:Nat} {ls:List qC} (h:OwnL w lo hi a c ls):jW w a ls:=by
 intro hne;rcases h.1.2 with ⟨_,h0⟩ | ⟨g,cap',cur,hv,hb,hg,hr⟩
 ·exact absurd (List.length_eq_zero_iff.1 h0) hne
 ·simp only [Value.slice.injEq] at hv;obtain ⟨rfl,_,rfl⟩:=hv;refine ⟨g,0,rfl,fun k hk=>?_⟩;obtain ⟨a0,a1,a2,_⟩:=Wt h.1 rfl k hk;rw [Nat.zero_add];exact ⟨a0,a1,a2⟩
end Go.Proofs.YtjkckhfddgeboaaGreatDoor