/- Several texts in one, in their order. -/
import Derived.Test.YtnoeobahjbdoiaaPViewx3
import Derived.Test.YtnoeobahjbdoiaaPViewx6
import Derived.Test.YtnoeobahjbdoiaaPViewx4
import Derived.Deep.CutRange
import Derived.Deep.RegionLaw
import Derived.Deep.DrawnRows
import Derived.Deep.RegionHeld3
import Derived.Test.YtnoeobahjbdoiaaPViewx2
import Derived.Deep.QuietTactic
import Derived.BigQuiet
import Derived.Deep.Cut
import Derived.Test.YtnoeobahjbdoiaaPViewx1
set_option maxHeartbeats 8000000
set_option maxRecDepth 100000
namespace Go.Proofs.Ytnoeobahjbdoiaa
open Go.RowKit
structure Disk8 (ps:List PageA):Prop where
 eight:ps.length=8
 four:∀ p∈ps,p.ss.length=4
theorem pageD_mem {ps:List PageA} {k:Nat} (h:k<ps.length):ps.getD k zeroP∈ps:=by simp [List.getD,h,List.getElem_mem]
theorem Disk8.at {ps:List PageA} (h:Disk8 ps) {k:Nat} (hk:k<8):(ps.getD k zeroP).ss.length=4:=h.four _ (pageD_mem (by rw [h.eight];exact hk))
def pgv (p:PageA):Int × List SlotV:=(p.lsn,p.ss.map (·.v))
def slots8 (ps:List PageA):List SlotA:=ps.flatMap (·.ss)
theorem page_in {w:World} {B:Nat} {t:TypeId} {ps:List PageA} (h:Disk8 ps) (b:Box w B (cellsPs ps) t) (k:Nat) (hk:k<8):w.rangeAt B (k*17) (ps.getD k zeroP).cells:=by
 have hk':k<ps.length:=by rw [h.eight];exact hk
 have e:=cellsPs_split ps k hk'
 have b':=b
 rw [e] at b'
 have:=Box.range _ _ _ b'
 rw [cellsPs_len _ (fun p hp=>h.four p (List.mem_of_mem_take hp)),List.length_take,Nat.min_eq_left (Nat.le_of_lt hk')] at this
 have e2:ps.getD k zeroP=ps[k]:=by simp [List.getD,hk']
 rw [e2];exact this
theorem disk8_info {ps:List PageA} (h:Disk8 ps):(Try.prog.info? 50).map (·.size)=some (cellsPs ps).length:=by rw [cellsPs_len _ h.four,h.eight];kernel_rfl
theorem pgv_at {ps ts:List PageA} (he:ts.map pgv=ps.map pgv) (k:Nat) (hk:k<ps.length):pgv (ts.getD k zeroP)=pgv (ps.getD k zeroP):=by
 have hk':k<ts.length:=by have:=congrArg List.length he;simp only [List.length_map] at this;omega
 have:=congrArg (fun l=>l[k]?) he
 simpa [List.getD,hk,hk'] using this
theorem page_infoP (p:PageA) (h:p.ss.length=4):(Try.prog.info? 49).map (·.size)=some p.cells.length:=by rw [page_len _ h];kernel_rfl
theorem eqPageA8_same (ps ts:List PageA) (hp:Disk8 ps) (ht:Disk8 ts) (he:ts.map pgv=ps.map pgv) (w:World) (hrp:∀ p∈ps,ReadsS w p.ss) (hrt:∀ p∈ts,ReadsS w p.ss) (hf:∀ p∈ps,Fit p.ss):
  Calls Try.prog 28 #[.agg (cellsPs ps).toArray,.agg (cellsPs ts).toArray] w fun e w'=>e=.returned (.bool true)∧Below w.heap.size w w':=by
 obtain ⟨W,hW,b0,b1,hbW,hsW⟩:=boxes2 w (cellsPs ps) (cellsPs ts) 50 50
 go_enter Try.func28,Try.ntmps28
 go_wp2_with fail
 rw [hW.out]
 clear hW hsW
 go_loopw [5] (fun i wr=>∃ k:Nat,k≤8∧i=.int .i64 (k:Int)∧Below W.heap.size W wr) (fun i _=>8-(intOf i).toNat)
 case atStart=>exact ⟨0,Nat.zero_le _,rfl,Below.refl _ _⟩
 case round=>
  obtain ⟨k,hk,rfl,hbr⟩:=hrel
  by_cases hlt:k<8
  ·have HR:Hid (∀ u,Below W.heap.size W u→u.rangeAt w.heap.size (k*17) (ps.getD k zeroP).cells∧u.rangeAt (w.heap.size+1) (k*17) (ts.getD k zeroP).cells):=fun u hu=>⟨page_in hp (b0.below hu b0.lt) k hlt,page_in ht (b1.below hu b1.lt) k hlt⟩
   have HP4:=hp.at hlt
   have HT4:=ht.at hlt
   have hv:=pgv_at he k (by rw [hp.eight];exact hlt)
   have R1:=hrp _ (pageD_mem (k:=k) (by rw [hp.eight];exact hlt))
   have R2:=hrt _ (pageD_mem (k:=k) (by rw [ht.eight];exact hlt))
   have F1:=hf _ (pageD_mem (k:=k) (by rw [hp.eight];exact hlt))
   generalize ps.getD k zeroP=p at*
   generalize ts.getD k zeroP=t at*
   obtain ⟨n,ss⟩:=p
   obtain ⟨n',ts'⟩:=t
   simp only [pgv,Prod.mk.injEq] at hv
   obtain ⟨rfl,hv⟩:=hv
   have HV:Hid _:=hv
   clear hv
   have hi0:(0:Int)≤(k:Int):=by omega
   have hi8:(k:Int)<8:=by omega
   go_wp2_with fail
   have D0:Below W.heap.size W wr.drew:=hbr.trans ((Below.refl _ _).drew.mono hbr.size)
   refine wp_region_held_drew (S:=fun u=>u.rangeAt w.heap.size (k*17) (PageA.cells ⟨n',ss⟩)∧u.rangeAt (w.heap.size+1) (k*17) (PageA.cells ⟨n',ts'⟩)) (by kernel_rfl) (HR.out _ D0) (fun hHeld=>?_)
   generalize wr.drew=d0 at*
   refine tq 0 (v:=.int .i64 (k:Int)) rfl hHeld ?_
   try simp only [zz]
   refine tq 1 (v:=.pointer (some ⟨w.heap.size,k*17,none⟩)) rfl hHeld ?_
   try simp only [zz]
   refine tk 2 rfl (yieldsIf_load_mid (by rfl) _ _ rfl _ _ rfl (PageA.cells ⟨n',ss⟩) _ (fun _ h=>h.1) Try.underlying49 rfl (page_infoP _ HP4)) hHeld ?_
   try simp only [zz]
   refine tq 3 (v:=.int .i64 (k:Int)) rfl hHeld ?_
   try simp only [zz]
   refine tq 4 (v:=.pointer (some ⟨w.heap.size+1,k*17,none⟩)) rfl hHeld ?_
   try simp only [zz]
   refine tk 5 rfl (yieldsIf_load_mid (by rfl) _ _ rfl _ _ rfl (PageA.cells ⟨n',ts'⟩) _ (fun _ h=>h.2) Try.underlying49 rfl (page_infoP _ HT4)) hHeld ?_
   try simp only [zz]
   refine wpAnyH_ready (rs:=[6]) (by kernel_rfl) (by simp) ?_
   refine AllReadyH.cons rfl (fun K hK=>?_) AllReadyH.nil
   go_simp
   refine (eqPage_same n' ss ts' HP4 HV.out d0 (R1.below (hbW.trans (D0.mono hbW.size))) (R2.below (hbW.trans (D0.mono hbW.size))) F1).mono ?_
   rintro e d1 ⟨rfl,hb1⟩
   have D1:Below W.heap.size W d1:=D0.trans (hb1.mono D0.size)
   refine hK.out _ _ (HR.out _ D1) (fun hHeld=>?_)
   clear hK K hb1
   try simp only [zz]
   refine tq 7 (v:=.bool false) rfl hHeld ?_
   try simp only [zz]
   refine wpAnyH_done (by kernel_rfl) ?_ _
   clear hHeld
   go_wp2_with fail
   go_roundw
   case rel=>exact ⟨k+1,by omega,by go_num,D1⟩
   case measure=>simp [intOf];omega
  ·obtain rfl:k=8:=by omega
   have hkk:¬ ((8:Nat):Int)<8:=by omega
   have HE:Hid (Below w.heap.size w wr):=hbW.trans (hbr.mono hbW.size)
   go_wp2
   go_ret
   exact ⟨rfl,HE.out⟩
theorem OwnS.part {w:World} {lo hi:Nat} {A M B:List SlotA} (h:OwnS w lo hi (A++(M++B))):OwnS w lo hi M:=by
 refine ⟨fun s hs=>h.each s (by simp [hs]),?_⟩
 have:=h.apart
 simp only [List.flatMap_append,List.nodup_append] at this
 exact this.2.1.1
theorem OwnS.swap {w w':World} {lo hi:Nat} {A M N B:List SlotA} (h:OwnS w lo hi (A++(M++B))) (ht:Touch (M.flatMap SlotA.blocks) w w') (ho:OwnS w' lo hi N) (hb:N.flatMap SlotA.blocks=M.flatMap SlotA.blocks):OwnS w' lo hi (A++(N++B)):=by
 have ha:=h.apart
 simp only [List.flatMap_append,List.nodup_append,List.mem_append] at ha
 obtain ⟨a1,⟨a2,a3,a4⟩,a5⟩:=ha
 refine ⟨fun s hs=>?_,?_⟩
 ·rcases List.mem_append.1 hs with hs | hs
  ·exact SlotA.touch (h.each s (by simp [hs])) ht (fun k hk hk'=>a5 k (List.mem_flatMap.2 ⟨s,hs,hk⟩) k (.inl hk') rfl)
  ·rcases List.mem_append.1 hs with hs | hs
   ·exact ho.each s hs
   ·exact SlotA.touch (h.each s (by simp [hs])) ht (fun k hk hk'=>a4 k hk' k (List.mem_flatMap.2 ⟨s,hs,hk⟩) rfl)
 ·have:=h.apart
  simp only [List.flatMap_append,hb] at this ⊢
  exact this
theorem markSs_blocks (ss:List SlotA):∀ k,(markSs ss k).flatMap SlotA.blocks=ss.flatMap SlotA.blocks:=by
 induction ss with
 | nil=>intro k;rfl
 | cons s r ih=>intro k;simp only [markSs,List.flatMap_cons,mark_blocks,ih]
theorem countS_app (A B:List SlotA):countS (A++B)=countS A+countS B:=by
 induction A with
 | nil=>simp [countS]
 | cons s r ih=>simp only [List.cons_append,countS,ih];omega
theorem slots8_app (a b:List PageA):slots8 (a++b)=slots8 a++slots8 b:=by simp only [slots8,List.flatMap_append]
theorem slots8_cons (p:PageA) (b:List PageA):slots8 (p::b)=p.ss++slots8 b:=by simp only [slots8,List.flatMap_cons]
theorem pageD_eq {ps:List PageA} {k:Nat} (h:k<ps.length):ps[k]=ps.getD k zeroP:=by simp [List.getD,h]
theorem slots_split (ps:List PageA) (k:Nat) (hk:k<ps.length):slots8 ps=slots8 (ps.take k)++((ps.getD k zeroP).ss++slots8 (ps.drop (k+1))):=by
 have e:ps=ps.take k++ps.getD k zeroP::ps.drop (k+1):=by
  conv=>lhs;rw [← List.take_append_drop k ps,List.drop_eq_getElem_cons hk]
  simp [List.getD,hk]
 conv=>lhs;rw [e]
 simp only [slots8,List.flatMap_append,List.flatMap_cons]
theorem slots_next (ps:List PageA) (k:Nat) (hk:k<ps.length):slots8 (ps.take (k+1))=slots8 (ps.take k)++(ps.getD k zeroP).ss:=by
 rw [List.take_succ_eq_append_getElem hk,slots8_app,slots8_cons,pageD_eq hk]
 simp only [slots8,List.flatMap_nil,List.append_nil]
theorem countS_take_le (ps:List PageA) (k:Nat):countS (slots8 (ps.take k))≤countS (slots8 ps):=by
 conv=>rhs;rw [← List.take_append_drop k ps,slots8_app,countS_app]
 omega
theorem markPageA8_touch (ps:List PageA) (hp:Disk8 ps) (lo hi:Nat) (k0:Int) (w:World) (ho:OwnS w lo hi (slots8 ps)) (hf:∀ p∈ps,Fit p.ss) (h0:0≤k0) (hk:k0+countS (slots8 ps)≤10995116277760) (hhi:hi≤w.heap.size):
  Calls Try.prog 33 #[.agg (cellsPs ps).toArray,.int .i64 k0] w fun e w'=>e=.returned (.int .i64 (k0+countS (slots8 ps)))∧OwnS w' lo hi (markSs (slots8 ps) k0)∧Touch ((slots8 ps).flatMap SlotA.blocks) w w':=by
 obtain ⟨W,hW,b0,hbW,hsW⟩:=boxes1 w (cellsPs ps) 50
 have hs0:w.heap.size<W.heap.size:=by omega
 have hbl:=ho.blocks_lt
 go_enter Try.func33,Try.ntmps33
 go_wp2_with fail
 rw [hW.out]
 clear hW hsW
 go_loopw [1,5] (fun kk i wr=>∃ k:Nat,k≤8∧i=.int .i64 (k:Int)∧kk=.int .i64 (k0+countS (slots8 (ps.take k)))∧OwnS wr lo hi (markSs (slots8 (ps.take k)) k0++slots8 (ps.drop k))∧Touch ((slots8 ps).flatMap SlotA.blocks) W wr) (fun _ i _=>8-(intOf i).toNat)
 case atStart=>exact ⟨0,Nat.zero_le _,rfl,by simp [slots8,countS],by simpa [slots8,markSs] using ho.below hbW,Touch.refl _ _⟩
 case round=>
  obtain ⟨k,hk8,rfl,rfl,hor,htr⟩:=hrel
  by_cases hlt:k<8
  ·have hkl:k<ps.length:=by rw [hp.eight];exact hlt
   have hwB:w.heap.size∉(slots8 ps).flatMap SlotA.blocks:=fun h=>by have:=(hbl _ h).2;omega
   have r1:=page_in hp (b0.touch htr hwB) k hlt
   have HP4:=hp.at hlt
   have F1:=hf _ (pageD_mem (k:=k) hkl)
   have e1:slots8 (ps.drop k)=(ps.getD k zeroP).ss++slots8 (ps.drop (k+1)):=by
    rw [List.drop_eq_getElem_cons hkl,slots8_cons,pageD_eq hkl]
   rw [e1] at hor
   have e2:=slots_next ps k hkl
   have HC:Hid (countS (slots8 (ps.take (k+1)))=countS (slots8 (ps.take k))+countS (ps.getD k zeroP).ss):=by rw [Hid,e2,countS_app]
   have HM:Hid (markSs (slots8 (ps.take (k+1))) k0=markSs (slots8 (ps.take k)) k0++markSs (ps.getD k zeroP).ss (k0+countS (slots8 (ps.take k)))):=by rw [Hid,e2,markSs_app]
   have HB:Hid (∀ j∈(ps.getD k zeroP).ss.flatMap SlotA.blocks,j∈(slots8 ps).flatMap SlotA.blocks):=fun j hj=>by
    rw [slots_split ps k hkl]
    simp only [List.flatMap_append,List.mem_append]
    exact .inr (.inl hj)
   have hcl:=countS_take_le ps k
   have C:=markPage_touch (ps.getD k zeroP) HP4 lo hi (k0+countS (slots8 (ps.take k))) wr hor.part F1 (by omega) (by omega) (by have:=htr.size;omega)
   clear e1 e2
   generalize ps.getD k zeroP=p at*
   have HIp:=page_infoP p HP4
   have hi0:(0:Int)≤(k:Int):=by omega
   have hi8:(k:Int)<8:=by omega
   generalize hcc:countS (slots8 (ps.take k))=cc at*
   go_wp2_with (first | (guard_target=wpList _ _ _ (Oper.mk (some 12) _ _ _ _ _::_) _ _;refine wpList_load_mid rfl 49 (.tmp 11) rfl w.heap.size (k*17) rfl p.cells _ r1 Try.underlying49 rfl HIp ?_) | fail)
   refine C.mono ?_
   clear C
   rintro e w1 ⟨rfl,ho1,ht1⟩
   have HOK:Hid (OwnS w1 lo hi (markSs (slots8 (ps.take (k+1))) k0++slots8 (ps.drop (k+1)))):=by
    rw [Hid,HM.out,List.append_assoc]
    exact hor.swap ht1 ho1 (markSs_blocks _ _)
   have HTK:Hid (Touch ((slots8 ps).flatMap SlotA.blocks) W w1):=htr.trans (ht1.mono HB.out)
   have HCC:Hid (k0+(cc:Int)+(countS p.ss:Int)=k0+(countS (slots8 (ps.take (k+1))):Int)):=by have:=HC.out;rw [Hid];omega
   clear hor htr ho1 ht1 HC HM
   go_wp2_with fail
   go_roundw
   case rel=>exact ⟨k+1,by omega,by go_num,by rw [HCC.out],HOK.out,HTK.out⟩
   case measure=>simp [intOf];omega
  ·obtain rfl:k=8:=by omega
   have hkk:¬ ((8:Nat):Int)<8:=by omega
   have e1:ps.take 8=ps:=by rw [← hp.eight,List.take_length]
   have e2:ps.drop 8=[]:=by rw [← hp.eight,List.drop_length]
   rw [e1,e2] at hor
   have HE:Hid (OwnS wr lo hi (markSs (slots8 ps) k0)∧Touch ((slots8 ps).flatMap SlotA.blocks) w wr):=⟨by simpa [slots8] using hor,(Touch.of_below hbW).trans htr⟩
   have HT:Hid (k0+(countS (slots8 (ps.take 8)):Int)=k0+countS (slots8 ps)):=by rw [Hid,e1]
   clear e1 e2
   go_wp2
   go_ret
   exact ⟨ret_int HT.out,HE.out.1,HE.out.2⟩
structure PoolV where
 seats:List SeatV
 hand:Int
structure PoolA where
 seats:List SeatA
 hand:Int
 a:Option Addr
 c:Nat
def PoolA.v (l:PoolA):PoolV:=⟨l.seats.map SeatA.v,l.hand⟩
def PoolA.cells (l:PoolA):List Value:=[.slice l.a l.seats.length l.c,.int .i64 l.hand]
def PoolA.reads (w:World) (l:PoolA):Prop:=ReadsSts w l.a l.seats
def PoolA.own (w:World) (lo hi:Nat) (l:PoolA):Prop:=OwnSts w lo hi l.a l.c l.seats
def SeatA.short (s:SeatA) (m:Nat):Prop:=∀ x∈s.ss,x.v.o.ints.length≤m∧x.v.o.refs.length≤m
structure PoolA.short (l:PoolA) (m:Nat):Prop where
 len:l.seats.length≤m
 each:∀ r∈l.seats,r.short m
theorem PoolA.short.at {l:PoolA} {m:Nat} (h:l.short m) (k:Nat) (hk:k<l.seats.length):(l.seats.getD k zeroSt).short m:=h.each _ (seatD_mem _ k hk)
theorem SeatA.short_of {a b:SeatA} {m:Nat} (h:a.v=b.v) (hb:b.short m):a.short m:=by
 intro x hx
 have e:a.ss.map (·.v)=b.ss.map (·.v):=congrArg SeatV.ss h
 have:x.v∈b.ss.map (·.v):=by rw [← e];exact List.mem_map.2 ⟨x,hx,rfl⟩
 obtain ⟨y,hy,e⟩:=List.mem_map.1 this
 rw [← e]
 exact hb y hy
theorem SeatA.short.wide {s:SeatA} (h:s.short 1048576):s.short 1099511627776:=fun x hx=>by have:=h x hx;omega
theorem mapSt_len {rs ts:List SeatA} (h:ts.map SeatA.v=rs.map SeatA.v):ts.length=rs.length:=by simpa using congrArg List.length h
theorem mapSt_at {rs ts:List SeatA} (h:ts.map SeatA.v=rs.map SeatA.v) (k:Nat) (hk:k<rs.length):(ts.getD k zeroSt).v=(rs.getD k zeroSt).v:=by
 have hk':k<ts.length:=by rw [mapSt_len h];exact hk
 have:=congrArg (fun x=>x[k]?) h
 simpa [List.getD,hk,hk'] using this
theorem mapSt_all {rs ts:List SeatA} (h:ts.map SeatA.v=rs.map SeatA.v) (P:SeatA→Prop) (hP:∀ a b:SeatA,a.v=b.v→P b→P a) (hall:∀ r∈rs,P r):∀ r∈ts,P r:=by
 intro r hr
 obtain ⟨k,hk,rfl⟩:=List.getElem_of_mem hr
 have hk':k<rs.length:=by rw [← mapSt_len h];exact hk
 have e:=mapSt_at h k hk'
 refine hP _ (rs.getD k zeroSt) ?_ (hall _ (seatD_mem rs k hk'))
 rw [← e]
 simp [List.getD,hk]
theorem PoolA.short_of {l t:PoolA} {m:Nat} (h:t.v=l.v) (hl:l.short m):t.short m:=by
 simp only [PoolA.v,PoolV.mk.injEq] at h
 exact ⟨by rw [mapSt_len h.1];exact hl.len,mapSt_all h.1 (fun r=>r.short m) (fun a b e hb=>SeatA.short_of e hb) hl.each⟩
theorem PoolA.short_wide {l:PoolA} (hl:l.short 1048576):l.short 1099511627776:=⟨by have:=hl.len;omega,fun r hr=>(hl.each r hr).wide⟩
theorem seat_one' (q:SeatA):q.cells.toArray.all (·.oneCell')=true:=all_oneCell_toArray (oneSt q)
theorem zeroSt_own' (w:World) (lo hi:Nat) (h:hi≤w.heap.size):zeroSt.own w lo hi:=⟨fun s hs=>by
 simp only [SeatA.ss,zeroSt,List.mem_cons,List.not_mem_nil,or_false] at hs
 have:s=zeroS:=by rcases hs with h | h | h | h<;>exact h
 subst this
 exact ⟨ownI_nil w lo hi h,ownI_nil w lo hi h,fun k h1 _=>by cases h1⟩,by show ([]:List Nat).Nodup;simp⟩
theorem four_slots' {ts:List SlotA} (h:ts.length=4):∃ a b c d,ts=[a,b,c,d]:=by
 match ts,h with
 | [a,b,c,d],_=>exact ⟨a,b,c,d,rfl⟩
theorem wide_of {ss:List SlotA} (hl:∀ s∈ss,s.v.o.ints.length≤1048576∧s.v.o.refs.length≤1048576):∀ s∈ss,s.v.o.ints.length≤1099511627776∧s.v.o.refs.length≤1099511627776:=fun s hs=>by have:=hl s hs;omega
def seatFrom (no:Int):List SeatV→Nat→Int
 | [],_=> -1
 | l::r,k=>if l.no=no then (k:Int) else seatFrom no r (k+1)
def seatedOf (ss:List SeatV) (no:Int):Int:=seatFrom no ss 0
theorem dropSt_at (ls:List SeatA) (k:Nat) (h:k<ls.length):(ls.map SeatA.v).drop k=(ls.getD k zeroSt).v::(ls.map SeatA.v).drop (k+1):=by
 rw [List.drop_eq_getElem_cons (by simpa using h)]
 simp [List.getD,h]
theorem specSeated_any (a:Option Addr) (c:Nat) (ls:List SeatA) (hand no:Int) (w:World) (hr:ReadsSts w a ls) (hl:ls.length≤1099511627776):
  Calls Try.prog 44 #[.agg #[.slice a ls.length c,.int .i64 hand],.int .i64 no] w fun r w'=>r=.returned (.int .i64 (seatedOf (ls.map SeatA.v) no))∧Below w.heap.size w w':=by
 obtain ⟨W,hW,b0,hbW,hsW⟩:=boxes1 w [.slice a ls.length c,.int .i64 hand] 53
 have HT:Hid (∀ u,Below W.heap.size W u→u.cell? ⟨w.heap.size,0,none⟩=some (.slice a ls.length c)):=fun u hu=>(b0.below hu b0.lt).cell 0 _ rfl
 have HR:Hid (∀ u,Below W.heap.size W u→ReadsSts u a ls):=fun u hu=>hr.below (hbW.trans (hu.mono hbW.size))
 have HF:Hid (seatFrom no ((ls.map SeatA.v).drop 0) 0=seatedOf (ls.map SeatA.v) no):=rfl
 generalize seatedOf (ls.map SeatA.v) no=R at*
 clear hsW b0 hr
 go_enter Try.func44,Try.ntmps44
 go_wp2_with fail
 rw [hW.out]
 clear hW
 go_loopw [5] (fun i wr=>∃ (k:Nat),i=.int .i64 k∧k≤ls.length∧Hid (seatFrom no ((ls.map SeatA.v).drop k) k=R)∧Below W.heap.size W wr)
  (fun i _=>ls.length-(intOf i).toNat)
 case atStart=>exact ⟨0,rfl,by omega,HF,Below.refl _ _⟩
 case round=>
  obtain ⟨k,rfl,hk,hR,hbl⟩:=hrel
  have x0:=HT.out wr hbl
  have hrr:=HR.out wr hbl
  have hbT:Below w.heap.size w wr:=hbW.trans (hbl.mono hbW.size)
  by_cases hlt:k<ls.length
  ·obtain ⟨b,off,rfl,hcell⟩:=hrr (by rintro rfl;simp at hlt)
   have c0:=(hcell k hlt).1 0 _ rfl
   simp only [Nat.add_zero] at c0
   clear hcell
   have hkk:(k:Int)<(ls.length:Int):=by omega
   have hi0:(0:Int)≤(k:Int):=by omega
   have HR2:Hid ((if (ls.getD k zeroSt).no=no then (k:Int) else seatFrom no ((ls.map SeatA.v).drop (k+1)) (k+1))=R):=by
    have h:=hR.out
    rw [dropSt_at ls k hlt,seatFrom] at h
    exact h
   generalize ls.getD k zeroSt=z at*
   by_cases hq:z.no=no
   ·have HR3:Hid ((k:Int)=R):=by have h:=HR2.out;rw [if_pos hq] at h;exact h
    have hqb:(z.no == no)=true:=by simpa using hq
    clear hq hR HR2
    go_wp2
    go_ret
    exact ⟨ret_int HR3.out,hbT⟩
   ·have HR3:Hid (seatFrom no ((ls.map SeatA.v).drop (k+1)) (k+1)=R):=by have h:=HR2.out;rw [if_neg hq] at h;exact h
    have hqb:(z.no == no)=false:=by simpa using hq
    clear hq hR HR2
    go_wp2_with fail
    go_roundw
    case rel=>exact ⟨k+1,by go_num,by omega,HR3,hbl⟩
    case measure=>simp [intOf];omega
  ·have hkk:¬ (k:Int)<(ls.length:Int):=by omega
   have HR':Hid (-1=R):=by
    have h:=hR.out
    rw [List.drop_eq_nil_of_le (by rw [List.length_map];omega),seatFrom] at h
    exact h
   clear hR
   go_wp2
   go_ret
   exact ⟨ret_int HR'.out,hbT⟩
def RecA.with (r:RecA) (t1 t2:SlotA) (aL:Option Addr) (cL:Nat):RecA:=⟨r.lsn,r.tx,r.prev,r.kind,r.oid,t1,t2,r.next,r.txs,aL,cL⟩
end Go.Proofs.Ytnoeobahjbdoiaa
namespace Go.Proofs.Ytnoeobahjbdoiaa
open Go.RowKit
attribute [local go_sem ↓] Go.wp_at_zero Go.wp_at_succ
end Go.Proofs.Ytnoeobahjbdoiaa
namespace Go.Proofs.Ytnoeobahjbdoiaa
open Go.RowKit
theorem rep_len (n:Nat) (r:RecA):(List.replicate n r).length=n:=by simp
theorem zero_cellsRs (n:Nat):(madeCells (Value.agg zeroR.cells.toArray).cells (n*15)).toList=cellsRs (List.replicate n zeroR):=by
 apply List.ext_getElem?
 intro i
 by_cases h:i<n*15
 ·have e:=cellsRs_at (List.replicate n zeroR) (i / 15) (i % 15) (by simp;omega) (Nat.mod_lt _ (by omega))
  rw [show i / 15*15+i % 15=i by omega] at e
  rw [e]
  have hg:(List.replicate n zeroR).getD (i / 15) zeroR=zeroR:=by simp [List.getD,show i / 15<n by omega]
  rw [hg]
  simp only [madeCells,Array.toList_map,List.getElem?_map,Array.toList_range,List.getElem?_range h,Option.map_some]
  have hm:i % 15<15:=Nat.mod_lt _ (by omega)
  have hz:∀ j,j<15→some ((Value.agg zeroR.cells.toArray).cells[j]!)=zeroR.cells[j]? :=by
   intro j hj
   rcases (by omega:j=0∨j=1∨j=2∨j=3∨j=4∨j=5∨j=6∨j=7∨j=8∨j=9∨j=10∨j=11∨j=12∨j=13∨j=14) with rfl | rfl | rfl | rfl | rfl | rfl | rfl | rfl | rfl | rfl | rfl | rfl | rfl | rfl | rfl<;>rfl
  exact hz _ hm
 ·rw [List.getElem?_eq_none (by simp [size_madeCells];omega),List.getElem?_eq_none (by rw [cellsRs_len];simp;omega)]
theorem own_zeroRs {w:World} {lo hi g c:Nat} (n:Nat) (h:w.ownsRow lo 129 15 (.slice (some ⟨g,0,none⟩) n c) n (cellsRs (List.replicate n zeroR))) (ht:hi≤w.heap.size) (hg:g<hi):OwnRs w lo hi (some ⟨g,0,none⟩) c (List.replicate n zeroR):=by
 refine ⟨by rw [rep_len];exact h,ht,fun k hk=>by cases hk;exact hg,fun r hr=>?_,?_⟩
 ·rw [(List.mem_replicate.1 hr).2]
  exact own_zeroR w lo hi ht
 ·have e:(List.replicate n zeroR).flatMap RecA.blocks=[]:=by
   rw [List.flatMap_eq_nil_iff]
   intro r hr
   rw [(List.mem_replicate.1 hr).2]
   rfl
  rw [e]
  simp [Value.ownBlock]
def Came (rs ts:List RecA) (k:Nat):Prop:=ts.length=k∧ts.map RecA.v=(rs.take k).map RecA.v
theorem came_none (rs:List RecA):Came rs [] 0:=⟨rfl,by simp⟩
theorem Came.snoc {rs ts:List RecA} {k:Nat} (h:Came rs ts k) (hk:k<rs.length) {q:RecA} (hq:q.v=(rs.getD k zeroR).v):Came rs (ts++[q]) (k+1):=by
 refine ⟨by simp [h.1],?_⟩
 have e:rs.getD k zeroR=rs[k]:=by simp [List.getD,hk]
 rw [List.map_append,h.2,List.take_succ_eq_append_getElem hk,List.map_append,List.map_singleton,List.map_singleton,hq,e]
theorem Came.all {rs ts:List RecA} (h:Came rs ts rs.length):ts.map RecA.v=rs.map RecA.v:=by
 have:=h.2
 rwa [List.take_length] at this
theorem range_below {w w':World} {b o:Nat} {r:RecA} (h:w.rangeAt b o r.cells) (hb:Below w.heap.size w w'):w'.rangeAt b o r.cells:=rangeAt_below h hb (rangeR_lt h)
theorem toRecS_any (a:Option Addr) (cap:Nat) (rs:List RecA) (w:World) (hr:ReadsRs w a rs) (hl:rs.length≤1048576) (hs:∀ r∈rs,r.short 1048576):
  Calls Try.prog 47 #[.slice a rs.length cap] w fun e w'=>∃ a' c' ts,e=.returned (.slice a' ts.length c')∧Hid (ts.map RecA.v=rs.map RecA.v)∧OwnRs w' w.heap.size w'.heap.size a' c' ts∧Below w.heap.size w w':=by
 obtain ⟨i0,hi,hz0,hz1,hz2⟩:=info_parts Try.infoRec
 have HI:Hid ((Try.prog.info? 125).map (·.size)=some 15):=by rw [Hid];kernel_rfl
 have HJ:Hid ((Try.prog.info? 129).map (·.size)=some 15):=by rw [Hid];kernel_rfl
 rcases hr.cases with rfl | ⟨b,off,rfl,hpos,hcell⟩
 ·go_enter Try.func47,Try.ntmps47
  go_wp2_with (at_make;refine wpList_make_full _ rfl _ _ 54 rfl w.heap.size 129 i0 (.agg zeroR.cells.toArray) 15 Try.underlying54 hi hz0 hz1 _ _ _ _ 0 rfl rfl (by simp) (by simp) (by omega) (by simp [maxLen]) (Nat.le_refl _) ?_)
  intro w0 hown0 hgrow0
  have hB:Below w.heap.size w w0:=(Below.refl _ _).grown hgrow0 (Nat.le_refl _) (fun k h=>by cases h)
  have ho:w0.ownsRow w.heap.size 129 15 (.slice (some ⟨w.heap.size,0,none⟩) 0 0) 0 (cellsRs (List.replicate 0 zeroR)):=by
   rw [← zero_cellsRs]
   exact hown0
  have HO:Hid (OwnRs w0 w.heap.size w0.heap.size (some ⟨w.heap.size,0,none⟩) 0 []):=own_zeroRs 0 ho (Nat.le_refl _) (ho.lt _ rfl).2
  clear hown0 hgrow0 ho
  go_wp2
  refine wp_loop_rounds 1 ?_
  rw [rounds_succ]
  go_wp2
  go_ret
  exact ⟨_,_,[],rfl,rfl,HO.out,hB⟩
 ·have hbB:b<w.heap.size:=rangeR_lt (hcell 0 hpos).1
  go_enter Try.func47,Try.ntmps47
  go_wp2_with (at_make;refine wpList_make_full _ rfl _ _ 54 rfl w.heap.size 129 i0 (.agg zeroR.cells.toArray) 15 Try.underlying54 hi hz0 hz1 _ _ _ _ rs.length rfl rfl rfl rfl (by rw [hz2];omega) (by simp [maxLen];omega) (Nat.le_refl _) ?_)
  intro w0 hown0 hgrow0
  have hb0:Below w.heap.size w w0:=(Below.refl _ _).grown hgrow0 (Nat.le_refl _) (fun k h=>by cases h)
  have ho:w0.ownsRow w.heap.size 129 15 (.slice (some ⟨w.heap.size,0,none⟩) rs.length rs.length) rs.length (cellsRs (List.replicate rs.length zeroR)):=by
   rw [← zero_cellsRs]
   exact hown0
  have HO:Hid (OwnRs w0 w.heap.size w0.heap.size (some ⟨w.heap.size,0,none⟩) rs.length (List.replicate rs.length zeroR)):=own_zeroRs _ ho (Nat.le_refl _) (ho.lt _ rfl).2
  clear hown0 hgrow0 ho
  go_wp2
  go_loopw [4] (fun i wr=>∃ (k:Nat) (ts:List RecA),k≤rs.length∧i=.int .i64 k∧Hid (Came rs ts k)∧Hid (OwnRs wr w.heap.size wr.heap.size (some ⟨w.heap.size,0,none⟩) rs.length (ts++List.replicate (rs.length-k) zeroR))∧Below w.heap.size w wr)
   (fun i _=>rs.length-(intOf i).toNat)
  case atStart=>exact ⟨0,[],Nat.zero_le _,rfl,came_none rs,HO,hb0⟩
  case round=>
   obtain ⟨k,ts,hk,rfl,hc,hown,hnx⟩:=hrel
   by_cases hlt:k<rs.length
   ·obtain ⟨c0,c1⟩:=hcell k hlt
    have HR:Hid (wr.rangeAt b (off+k*15) (rs.getD k zeroR).cells):=rangeAt_below c0 hnx hbB
    have hrd:(rs.getD k zeroR).reads wr:=c1.below hnx
    have hsh:(rs.getD k zeroR).short 1048576:=hs _ (recD_mem rs k hlt)
    have C:=toRec_law (rs.getD k zeroR) wr hrd hsh
    have HS:Hid (∀ q:RecA,q.v=(rs.getD k zeroR).v→Came rs (ts++[q]) (k+1)):=fun q hq=>hc.out.snoc hlt hq
    have HP:Hid (ts++List.replicate (rs.length-k) zeroR=ts++zeroR::List.replicate (rs.length-(k+1)) zeroR∧(ts++zeroR::List.replicate (rs.length-(k+1)) zeroR).length=rs.length∧ts.length=k):=by
     have e:rs.length-k=(rs.length-(k+1))+1:=by omega
     refine ⟨by rw [e,List.replicate_succ],?_,hc.out.1⟩
     have:=hc.out.1
     simp
     omega
    clear c0 c1 hcell hb0 HO hs hrd hsh
    generalize rs.getD k zeroR=z at*
    go_wp2_with (first | (guard_target=wpList _ _ _ (Oper.mk (some 19) _ _ _ _ _::_) _ _;refine wpList_load_mid rfl 125 (.tmp 18) rfl b (off+k*15) rfl z.cells _ HR.out Try.underlying125 rfl HI.out ?_) | fail)
    refine C.mono ?_
    clear C HR
    rintro e w1 ⟨q,rfl,hq,hqo,hb1⟩
    have hs1:=hb1.size
    have ho1:=hown.out.below hb1
    rw [HP.out.1] at ho1
    obtain ⟨W2,hW2,ho2,ht2,hs2⟩:=ho1.fill q hqo (Nat.le_refl _) (by have:=hnx.size;omega) (Nat.le_refl _)
    rw [HP.out.2.2] at hW2
    have HT:Hid (w1.there w.heap.size (k*15) 15):=(row_rec ho1.row rfl k (by rw [HP.out.2.1];exact hlt)).2
    have hB2:Below w.heap.size w W2:=(hnx.trans (hb1.mono hnx.size)).trans ((ht2.within (lo:=w.heap.size) (hi:=w.heap.size+1) (fun j hj=>by obtain rfl:=List.mem_singleton.1 hj;omega)).below (Nat.le_refl _) (by have:=hnx.size;omega))
    have HH:Hid (OwnRs W2 w.heap.size W2.heap.size (some ⟨w.heap.size,0,none⟩) rs.length ((ts++[q])++List.replicate (rs.length-(k+1)) zeroR)):=by
     have:=ho2.widen (Nat.le_refl _) (show max wr.heap.size w1.heap.size≤W2.heap.size by omega) (Nat.le_refl _)
     rw [List.append_assoc,List.singleton_append]
     exact this
    have HB:Hid _:=hB2
    have HC:=HS.out q hq.out
    have HO1:=rec_one q
    clear ho1 ho2 ht2 hs2 hB2 hqo hb1 hnx hown hq HS hs1
    go_wp2_with (first | (guard_target=wpList _ _ _ (Oper.mk none (Op.store _ (Operand.tmp 21) _) _ _ _ _::_) _ _;refine wpList_store_mid rfl 129 (.tmp 21) (.tmp 20) rfl w.heap.size (k*15) q.cells.toArray rfl rfl HT.out HJ.out HO1 ?_) | fail)
    rw [hW2.out]
    go_roundw
    case rel=>exact ⟨k+1,ts++[q],by omega,by go_num,HC,HH,HB.out⟩
    case measure=>simp [intOf];omega
   ·have HE:Hid (ts.map RecA.v=rs.map RecA.v∧OwnRs wr w.heap.size wr.heap.size (some ⟨w.heap.size,0,none⟩) rs.length ts∧ts.length=rs.length):=by
     have e:k=rs.length:=by omega
     rw [e] at hown hc
     rw [Nat.sub_self,List.replicate_zero,List.append_nil] at hown
     exact ⟨hc.out.all,hown.out,hc.out.1⟩
    go_wp2
    go_ret
    exact ⟨some ⟨w.heap.size,0,none⟩,rs.length,ts,by rw [HE.out.2.2];rfl,HE.out.1,HE.out.2.1,hnx⟩
theorem mapV_nil {ts:List RecA} (h:ts.map RecA.v=([]:List RecA).map RecA.v):ts=[]:=by simpa using h
theorem toLog_any (l:LogA) (w:World) (hr:l.reads w) (hl:l.short 1048576):
  Calls Try.prog 22 #[.agg l.cells.toArray] w fun e w'=>∃ t:LogA,e=.returned (.agg t.cells.toArray)∧Hid (t.v=l.v)∧t.own w' w.heap.size w'.heap.size∧Below w.heap.size w w':=by
 obtain ⟨rs,s,a,c⟩:=l
 obtain ⟨hl1,hl2⟩:=hl
 simp only [LogA.reads,LogA.cells,LogA.own] at*
 obtain ⟨W,hW,b0,b1,b2,hbW,hsW⟩:=boxes3 w [.slice a rs.length c,.int .i64 s] [.slice none 0 0,.int .i64 0] [.slice none 0 0,.int .i64 0] 36 56 56
 have C:=toRecS_any a c rs W (hr.below hbW) hl1 hl2
 go_enter Try.func22,Try.ntmps22
 go_wp2_with fail
 rw [hW.out]
 clear hW
 have hs0:w.heap.size+1+1<W.heap.size:=by omega
 clear hsW
 refine C.mono ?_
 clear C
 rintro e w1 ⟨a',c',ts,rfl,hv,ho1,hb1⟩
 have hs1:=hb1.size
 have b01:=b0.below hb1 b0.lt
 have b11:=b1.below hb1 b1.lt
 have b21:=b2.below hb1 b2.lt
 have x1:=b01.cell 1 _ rfl
 have y0:=b21.cell 0 _ rfl
 have y1:=b21.cell 1 _ rfl
 have f0:=b21.frozen 0
 have f1:=b21.frozen 1
 have z0:=b11.cell 0 _ rfl
 have z1:=b11.cell 1 _ rfl
 have g0:=b11.frozen 0
 have g1:=b11.frozen 1
 obtain ⟨W2,hW2,b22,hw2,hs2⟩:=box_set b21 0 (.slice a' ts.length c')
 obtain ⟨W3,hW3,b23,hw3,hs3⟩:=box_set b22 1 (.int .i64 s)
 have b13:=(b11.within hw2 (by omega)).within hw3 (by omega)
 obtain ⟨W4,hW4,b14,hw4,hs4⟩:=box_set b13 0 (.slice a' ts.length c')
 obtain ⟨W5,hW5,b15,hw5,hs5⟩:=box_set b14 1 (.int .i64 s)
 simp only [List.set] at b15
 have q0:=b15.cell 0 _ rfl
 have q1:=b15.cell 1 _ rfl
 have hB5:Below w.heap.size w W5:=((((hbW.trans (hb1.mono (by omega))).trans (hw2.below (by omega) (by omega))).trans (hw3.below (by omega) (by omega))).trans (hw4.below (by omega) (by omega))).trans (hw5.below (by omega) (by omega))
 have ho5:=((((ho1.within hw2 (.inr (by omega))).within hw3 (.inr (by omega))).within hw4 (.inr (by omega))).within hw5 (.inr (by omega))).widen (show w.heap.size≤W.heap.size by omega) (show w1.heap.size≤W5.heap.size by omega) (Nat.le_refl _)
 have HH:Hid (_∧_∧_):=⟨ho5,hB5,hv.out⟩
 clear ho5 hB5 hv ho1 hb1 hw2 hw3 hw4 hw5 hs2 hs3 hs4 hs5 b01 b11 b21 b22 b23 b13 b14 b15 b0 b1 b2 hbW
 have h34:Hid (((((w1.setCell ⟨w.heap.size+1+1,0,none⟩ (.slice a' ts.length c')).setCell ⟨w.heap.size+1+1,1,none⟩ (.int .i64 s)).setCell ⟨w.heap.size+1,0,none⟩ (.slice a' ts.length c')).setCell ⟨w.heap.size+1,1,none⟩ (.int .i64 s))=W5):=by rw [Hid,hW2.out,hW3.out,hW4.out,hW5.out]
 clear hW2 hW3 hW4 hW5
 go_wp2
 rw [h34.out]
 exact bodyPost_ret (v:=.agg #[.slice a' ts.length c',.int .i64 s]) (by simp [results,Try.results22,go_sem,q0,q1]) rfl ⟨⟨ts,s,a',c'⟩,rfl,by simp only [Hid,LogA.v];rw [HH.out.2.2],HH.out.1,HH.out.2.1⟩
theorem eqRecS_same (a b:Option Addr) (ca cb:Nat) (rs ts:List RecA) (he:ts.map RecA.v=rs.map RecA.v) (w:World) (ha:ReadsRs w a rs) (hb:ReadsRs w b ts) (hl:rs.length≤1099511627776) (hs:∀ r∈rs,r.short 1099511627776):
  Calls Try.prog 55 #[.slice a rs.length ca,.slice b ts.length cb] w fun e w'=>e=.returned (.bool true)∧Below w.heap.size w w':=by
 rcases ha.cases with rfl | ⟨b1,o1,rfl,hpos,hc1⟩
 ·obtain rfl:=mapV_nil he
  go_enter Try.func55,Try.ntmps55
  go_wp2
  refine wp_loop_rounds 1 ?_
  rw [rounds_succ]
  go_wp2
  go_ret
  exact ⟨rfl,Below.refl _ _⟩
 ·have hlen:=mapV_len he
  rcases hb.cases with rfl | ⟨b2,o2,rfl,_,hc2⟩
  ·simp at hlen;omega
  ·have HV:Hid (∀ k,k<rs.length→(ts.getD k zeroR).v=(rs.getD k zeroR).v):=fun k hk=>mapV_at he k hk
   have HS:Hid (∀ k,k<rs.length→(rs.getD k zeroR).short 1099511627776):=fun k hk=>hs _ (recD_mem rs k hk)
   have HI:Hid ((Try.prog.info? 129).map (·.size)=some 15):=by rw [Hid];kernel_rfl
   have hu:=Try.underlying129
   rw [hlen] at hc2 ⊢
   clear he hs hlen
   go_enter Try.func55,Try.ntmps55
   go_wp2
   go_loopw [5] (fun i wr=>∃ k:Nat,k≤rs.length∧i=.int .i64 k∧Below w.heap.size w wr) (fun i _=>rs.length-(intOf i).toNat)
   case atStart=>exact ⟨0,Nat.zero_le _,rfl,Below.refl _ _⟩
   case round=>
    obtain ⟨k,hk,rfl,hbl⟩:=hrel
    by_cases hlt:k<rs.length
    ·obtain ⟨h1,r1⟩:=hc1 k hlt
     obtain ⟨h2,r2⟩:=hc2 k hlt
     have hv:=HV.out k hlt
     have hsh:=HS.out k hlt
     clear hc1 hc2
     generalize rs.getD k zeroR=z at*
     generalize ts.getD k zeroR=y at*
     have HR:Hid (∀ w1,Below w.heap.size w w1→w1.rangeAt b1 (o1+k*15) z.cells∧w1.rangeAt b2 (o2+k*15) y.cells):=fun w1 hh=>⟨range_below h1 hh,range_below h2 hh⟩
     have HD:Hid (∀ w1,Below w.heap.size w w1→z.reads w1∧y.reads w1):=fun w1 hh=>⟨r1.below hh,r2.below hh⟩
     clear h1 h2 r1 r2
     go_wp2_with fail
     refine wp_region_held_drew (S:=fun w'=>w'.rangeAt b1 (o1+k*15) z.cells∧w'.rangeAt b2 (o2+k*15) y.cells) (by kernel_rfl) ?_ (fun hHeld=>?_)
     ·exact HR.out _ hbl.drew
     refine tq 0 (v:=.slice (some ⟨b1,o1,none⟩) rs.length ca) rfl hHeld ?_
     try simp only [zz]
     refine tq 1 (v:=.int .i64 k) rfl hHeld ?_
     try simp only [zz]
     refine tq 2 (v:=.pointer (some ⟨b1,o1+k*15,none⟩)) rfl hHeld ?_
     try simp only [zz]
     refine tk 3 rfl (yieldsIf_load_mid (by rfl) _ _ rfl _ _ rfl z.cells _ (fun _ h=>h.1) Try.underlying129 rfl HI.out) hHeld ?_
     try simp only [zz]
     refine tq 4 (v:=.slice (some ⟨b2,o2,none⟩) rs.length cb) rfl hHeld ?_
     try simp only [zz]
     refine tq 5 (v:=.int .i64 k) rfl hHeld ?_
     try simp only [zz]
     refine tq 6 (v:=.pointer (some ⟨b2,o2+k*15,none⟩)) rfl hHeld ?_
     try simp only [zz]
     refine tk 7 rfl (yieldsIf_load_mid (by rfl) _ _ rfl _ _ rfl y.cells _ (fun _ h=>h.2) Try.underlying129 rfl HI.out) hHeld ?_
     try simp only [zz]
     refine wpAnyH_ready (rs:=[8]) (by kernel_rfl) (by simp) ?_
     refine AllReadyH.cons rfl (fun K hK=>?_) AllReadyH.nil
     go_simp
     refine (eqRec_same z y hv _ (HD.out _ hbl.drew).1 (HD.out _ hbl.drew).2 hsh).mono ?_
     rintro e w2 ⟨rfl,hb2⟩
     have hw2:Below w.heap.size w w2:=(hbl.drew).trans (hb2.mono hbl.size)
     refine hK.out _ _ (HR.out _ hw2) (fun hHeld=>?_)
     clear hK K
     try simp only [zz]
     refine tq 9 (v:=.bool false) rfl hHeld ?_
     try simp only [zz]
     refine wpAnyH_done (by kernel_rfl) ?_ _
     go_wp2_with fail
     go_roundw
     case rel=>exact ⟨k+1,by omega,by go_num,hw2⟩
     case measure=>simp [intOf];omega
    ·go_wp2
     go_ret
     exact ⟨rfl,hbl⟩
theorem eqLog_same (l t:LogA) (he:t.v=l.v) (w:World) (hr:l.reads w) (ht:t.reads w) (hl:l.short 1099511627776):
  Calls Try.prog 30 #[.agg l.cells.toArray,.agg t.cells.toArray] w fun e w'=>e=.returned (.bool true)∧Below w.heap.size w w':=by
 obtain ⟨rs,s,a,c⟩:=l
 obtain ⟨ts,s',a',c'⟩:=t
 obtain ⟨hl1,hl2⟩:=hl
 simp only [LogA.v,LogV.mk.injEq] at he
 obtain ⟨he,rfl⟩:=he
 simp only [LogA.reads,LogA.cells] at*
 obtain ⟨W,hW,b0,b1,hbW,hsW⟩:=boxes2 w [.slice a rs.length c,.int .i64 s'] [.slice a' ts.length c',.int .i64 s'] 56 56
 have C:=eqRecS_same a a' c c' rs ts he W (hr.below hbW) (ht.below hbW) hl1 hl2
 clear hsW he hl1 hl2 hr ht
 go_enter Try.func30,Try.ntmps30
 go_wp2_with fail
 rw [hW.out]
 clear hW
 refine C.mono ?_
 clear C
 rintro e w1 ⟨rfl,hb1⟩
 have x1:=(b0.below hb1 b0.lt).cell 1 _ rfl
 have y1:=(b1.below hb1 b1.lt).cell 1 _ rfl
 clear b0 b1
 go_wp2
 go_ret
 exact ⟨rfl,hbW.trans (hb1.mono hbW.size)⟩
theorem szRecS_any (a:Option Addr) (cap:Nat) (rs:List RecA) (left:Int) (w:World) (hr:ReadsRs w a rs) (hn:rs.length≤9223372036854775807) (hs:∀ r∈rs,r.short 9223372036854775807) (hl:0≤left∧left≤1048576):
  Calls Try.prog 42 #[.slice a rs.length cap,.int .i64 left] w fun e w'=>∃ z:Int,e=.returned (.int .i64 z)∧(z<0∨(0≤z∧z≤left∧rs.length≤1048576∧∀ r∈rs,r.short 1048576))∧Below w.heap.size w w':=by
 have HI:Hid ((Try.prog.info? 125).map (·.size)=some 15):=by rw [Hid];kernel_rfl
 by_cases hle:left-rs.length<0
 ·go_enter Try.func42,Try.ntmps42
  go_wp2
  go_ret
  exact ⟨-1,rfl,.inl (by omega),Below.refl _ _⟩
 have HS:Hid (∀ k,k<rs.length→(rs.getD k zeroR).short 9223372036854775807):=fun k hk=>hs _ (recD_mem rs k hk)
 have hlen:rs.length≤1048576:=by omega
 have HC:Hid (∀ k,k<rs.length→∃ b off,a=some ⟨b,off,none⟩∧w.rangeAt b (off+k*15) (rs.getD k zeroR).cells):=fun k hk=>by
  obtain ⟨b,off,ha,hc⟩:=hr (by intro e;rw [e] at hk;simp at hk)
  exact ⟨b,off,ha,(hc k hk).1⟩
 have HA:Hid ((∀ k,k<rs.length→(rs.getD k zeroR).short 1048576)→∀ r∈rs,r.short 1048576):=by
  intro h r hr
  obtain ⟨k,hk,rfl⟩:=List.getElem_of_mem hr
  have:=h k hk
  simpa [List.getD,hk] using this
 clear hr hs
 go_enter Try.func42,Try.ntmps42
 go_wp2
 go_loopw [1,5] (fun v i wr=>∃ (k:Nat) (z:Int),k≤rs.length∧i=.int .i64 k∧v=.int .i64 z∧0≤z∧z≤left∧Hid (∀ j,j<k→(rs.getD j zeroR).short 1048576)∧Below w.heap.size w wr) (fun _ i _=>rs.length-(intOf i).toNat)
 case atStart=>exact ⟨0,left-rs.length,Nat.zero_le _,rfl,by go_num,by omega,by omega,fun j hj=>by omega,Below.refl _ _⟩
 case round=>
  obtain ⟨k,z,hk,rfl,rfl,hz0,hz1,hsh,hbl⟩:=hrel
  by_cases hlt:k<rs.length
  ·obtain ⟨b,off,rfl,hcell⟩:=HC.out k hlt
   have HR:Hid (wr.rangeAt b (off+k*15) (rs.getD k zeroR).cells):=range_below hcell hbl
   have C:=szRec_any (rs.getD k zeroR) z wr (HS.out k hlt) (by omega)
   clear hcell HC
   have HN:Hid ((rs.getD k zeroR).short 1048576→∀ j,j<k+1→(rs.getD j zeroR).short 1048576):=fun h j hj=>by
    by_cases e:j=k
    ·rw [e];exact h
    ·exact hsh.out j (by omega)
   generalize rs.getD k zeroR=y at*
   go_wp2_with (first | (guard_target=wpList _ _ _ (Oper.mk (some 21) _ _ _ _ _::_) _ _;refine wpList_load_mid rfl 125 (.tmp 20) rfl b (off+k*15) rfl y.cells _ HR.out Try.underlying125 rfl HI.out ?_) | fail)
   refine C.mono ?_
   clear C HR
   rintro e w1 ⟨z1,rfl,hz,hb1⟩
   have hB1:Below w.heap.size w w1:=hbl.trans (hb1.mono hbl.size)
   rcases hz with hneg | ⟨g0,g1,g2⟩
   ·go_wp2
    go_ret
    exact ⟨-1,rfl,.inl (by omega),hB1⟩
   ·have hzn:¬ z1<0:=by omega
    have HH:=HN.out g2
    go_wp2
    go_roundw
    case rel=>exact ⟨k+1,z1,by omega,by go_num,rfl,g0,by omega,HH,hB1⟩
    case measure=>simp [intOf];omega
  ·have HE:Hid (∀ r∈rs,r.short 1048576):=HA.out (fun j hj=>hsh.out j (by omega))
   go_wp2
   go_ret
   exact ⟨z,rfl,.inr ⟨hz0,hz1,hlen,HE.out⟩,hbl⟩
theorem szLog_any (l:LogA) (left:Int) (w:World) (hr:l.reads w) (hs:l.short 9223372036854775807) (hl:0≤left∧left≤1048576):
  Calls Try.prog 15 #[.agg l.cells.toArray,.int .i64 left] w fun e w'=>∃ z:Int,e=.returned (.int .i64 z)∧(z<0∨(0≤z∧z≤left∧l.short 1048576))∧Below w.heap.size w w':=by
 obtain ⟨rs,s,a,c⟩:=l
 obtain ⟨hl1,hl2⟩:=hs
 simp only [LogA.reads,LogA.cells] at*
 obtain ⟨W,hW,b0,hbW,hsW⟩:=boxes1 w [.slice a rs.length c,.int .i64 s] 36
 have C:=szRecS_any a c rs left W (hr.below hbW) hl1 hl2 hl
 clear hsW hr hl1 hl2
 go_enter Try.func15,Try.ntmps15
 go_wp2_with fail
 rw [hW.out]
 clear hW
 refine C.mono ?_
 clear C
 rintro e w1 ⟨z,rfl,hz,hb1⟩
 have hB:Below w.heap.size w w1:=hbW.trans (hb1.mono hbW.size)
 rcases hz with hneg | ⟨h0,h1,h2,h3⟩
 ·go_wp2
  go_ret
  exact ⟨-1,rfl,.inl (by omega),hB⟩
 ·have hzn:¬ z<0:=by omega
  go_wp2
  go_ret
  exact ⟨z,rfl,.inr ⟨h0,h1,h2,h3⟩,hB⟩
end Go.Proofs.Ytnoeobahjbdoiaa
namespace Go.Proofs.Ytnoeobahjbdoiaa
open Go.ChangeShapes Go.WideShapes Go.ChangeAt Go.RowKit
structure InLog (w:World) (l:LogA):Prop where
 recs:ReadsRs w l.a l.recs
 each:∀ r∈l.recs,InRec w r
 len:l.recs.length≤maxLen
 num:InI64 l.sure
theorem InLog.short {w:World} {l:LogA} (h:InLog w l):l.short 9223372036854775807:=⟨by have:=h.len;simp only [maxLen] at this;omega,fun r hr=>(h.each r hr).short⟩
section
variable {H:Type} {enc:TypeId × Value→H} {w:World} {base:Nat} {spare:Nat→Bool} {held:Bool}
theorem Try.cellsRcs:Try.prog.cellsOf 34=1:=by kernel_rfl
theorem Try.cellsLg:Try.prog.cellsOf 36=2:=by kernel_rfl
theorem trod_recs {fuel:Nat} {cs:List Value} {x:DataW H × List MemPlace} (h:DataW.trod enc Try.prog w base spare held fuel 34 cs=some x):
  ∃ (a:Option Addr) (c:Nat) (rs:List RecA),cs=[.slice a rs.length c]∧ReadsRs w a rs∧(∀ r∈rs,InRec w r)∧rs.length≤maxLen:=by
 rcases DataW.trod_slice Try.underlying34 h with ⟨rfl,_⟩ | ⟨a,len,cap,elems,rest,n,_,rfl,_,_,hl,hm,hlen,hel,_,_⟩
 ·exact ⟨none,0,[],rfl,ReadsRs.nil _ _,fun r hr=>by simp at hr,by simp⟩
 rw [Try.cellsRc] at hel
 have each:∀ i,i<len→∃ t:RecA,w.cells? base (a.add (i*15)) 15=some t.cells∧InRec w t:=by
  intro i hi
  have hy:=hel i hi
  rw [List.getElem?_eq_getElem (by omega:i<elems.length),Option.bind_eq_some_iff] at hy
  obtain ⟨cs',hcs,hy'⟩:=hy
  obtain ⟨t,e,ht⟩:=trod_rec hy'
  exact ⟨t,by rw [hcs,e],ht⟩
 obtain ⟨f,hf⟩:∃ f:Nat→RecA,∀ i,i<len→w.cells? base (a.add (i*15)) 15=some (f i).cells∧InRec w (f i):=by
  refine ⟨fun i=>if h:i<len then (each i h).choose else zeroR,fun i hi=>?_⟩
  simp only [dif_pos hi]
  exact (each i hi).choose_spec
 refine ⟨some a,cap,(List.range len).map f,by simp,?_,?_,by simp;omega⟩
 ·intro hne
  have hpos:=List.length_pos_iff.2 hne
  simp only [List.length_map,List.length_range] at hpos ⊢
  obtain ⟨b,off,spot⟩:=a
  have c0:=(World.cells?_some (hf 0 hpos).1).2.2 0 (by decide)
  have hspot:spot=none:=by simpa [Addr.add] using World.cell?_spot c0
  subst hspot
  refine ⟨b,off,rfl,fun k hk=>?_⟩
  have e:((List.range len).map f).getD k zeroR=f k:=by simp [List.getD,hk]
  rw [e]
  have hc:=(World.cells?_some (hf k hk).1).2.2
  refine ⟨fun j v hv=>?_,(hf k hk).2.reads⟩
  have hj:j<15:=by have:=(List.getElem?_eq_some_iff.1 hv).1;rwa [cellsR_len] at this
  have d:=hc j (by simpa using hj)
  simp only [Addr_add] at d
  rw [d,hv]
 ·intro r hr
  obtain ⟨k,hk,rfl⟩:=List.mem_map.1 hr
  exact (hf k (List.mem_range.1 hk)).2
theorem trod_log {fuel:Nat} {cs:List Value} {x:DataW H × List MemPlace} (h:DataW.trod enc Try.prog w base spare held fuel 36 cs=some x):
  ∃ l:LogA,cs=l.cells∧InLog w l:=by
 obtain ⟨xs,n,_,_,hlen,hxl,hf⟩:=DataW.trod_struct Try.underlying36 h
 rw [Try.cellsLg] at hlen
 match cs,hlen with
 | [v0,v1],_=>
  have f0:=hf 0 _ rfl
  have f1:=hf 1 _ rfl
  obtain ⟨y0,hx0⟩:=some_at xs 0 (by rw [hxl];decide)
  rw [hx0] at f0
  obtain ⟨y1,hx1⟩:=some_at xs 1 (by rw [hxl];decide)
  rw [hx1] at f1
  simp only [List.getElem_toArray,List.getElem_cons_zero,List.getElem_cons_succ,Try.cellsI,Try.cellsRcs,List.drop,List.take] at f0 f1
  obtain ⟨a,c,rs,e0,h0,h1,h2⟩:=trod_recs f0
  obtain ⟨m,e1,w1⟩:=trod_num f1
  simp only [List.cons.injEq,and_true] at e0 e1
  subst e0 e1
  exact ⟨⟨rs,m,a,c⟩,rfl,h0,h1,h2,w1⟩
theorem open_log {b0:Nat} {v:Value} {d:DataW H} {ps:List MemPlace} (hval:Value.okWide Try.prog w .any b0 36 v) (h:DataW.Trod enc Try.prog w base spare held 36 v d ps):
  ∃ l:LogA,v=.agg l.cells.toArray∧InLog w l:=by
 obtain ⟨cs,rfl,hcs⟩:=okWide_struct Try.underlying36 hval
 obtain ⟨fuel,hf⟩:=h
 have e:(Value.agg cs).cells.toList=cs.toList:=rfl
 rw [e] at hf
 obtain ⟨r,hc,rest⟩:=trod_log hf
 refine ⟨r,?_,rest⟩
 congr 1
 apply Array.toList_inj.1
 rw [hc]
end
end Go.Proofs.Ytnoeobahjbdoiaa
namespace Go.Proofs.Ytnoeobahjbdoiaa
open Go.RowKit
theorem LogA.reads.below {w w':World} {l:LogA} (h:l.reads w) (hb:Below w.heap.size w w'):l.reads w':=ReadsRs.below h hb
theorem LogA.own.below {w w':World} {lo hi:Nat} {l:LogA} (h:l.own w lo hi) (hb:Below w.heap.size w w'):l.own w' lo hi:=OwnRs.below h hb
theorem LogA.own.within {w w':World} {lo hi a b:Nat} {l:LogA} (h:l.own w lo hi) (hw:Within a b w w') (hd:hi≤a∨b≤lo):l.own w' lo hi:=OwnRs.within h hw hd
theorem LogA.own.widen {w:World} {lo hi lo' hi':Nat} {l:LogA} (h:l.own w lo hi) (h1:lo'≤lo) (h2:hi≤hi') (h3:hi'≤w.heap.size):l.own w lo' hi':=OwnRs.widen h h1 h2 h3
def LogA.blocks (l:LogA):List Nat:=blocksRs l.a l.c l.recs
theorem LogA.own.blocks_lt {w:World} {lo hi:Nat} {l:LogA} (h:l.own w lo hi):∀ k∈l.blocks,lo≤k∧k<hi:=OwnRs.blocks_lt h
theorem LogA.own.touch {w w':World} {lo hi:Nat} {l:LogA} {bl:List Nat} (h:l.own w lo hi) (ht:Touch bl w w') (hd:∀ k∈l.blocks,k∉bl):l.own w' lo hi:=OwnRs.touch h ht hd
theorem oneLog (l:LogA):∀ v∈l.cells,v.oneCell'=true:=by
 intro v hv
 simp only [LogA.cells,List.mem_cons,List.not_mem_nil,or_false] at hv
 rcases hv with rfl | rfl<;>rfl
theorem InLog.reads {w:World} {l:LogA} (h:InLog w l):l.reads w:=h.recs
theorem log_one (q:LogA):q.cells.toArray.all (·.oneCell')=true:=all_oneCell_toArray (oneLog q)
theorem log_info (q:LogA):(Try.prog.info? 56).map (·.size)=some q.cells.length:=by show _=some 2;kernel_rfl
end Go.Proofs.Ytnoeobahjbdoiaa
namespace Go.Proofs.Ytnoeobahjbdoiaa
open Go.RowKit
attribute [local go_sem ↓] Go.wp_at_zero Go.wp_at_succ
end Go.Proofs.Ytnoeobahjbdoiaa
namespace Go.Proofs.Ytnoeobahjbdoiaa
open Go.RowKit
end Go.Proofs.Ytnoeobahjbdoiaa
namespace Go.Proofs.Ytnoeobahjbdoiaa
open Go.RowKit
theorem cellsSts_mid (A B:List SeatA) (z z':SeatA) (i:Nat) (v:Value) (hi:i<20) (hc:z'.cells=z.cells.set i v):(cellsSts (A++z::B)).set (A.length*20+i) v=cellsSts (A++z'::B):=by
 rw [cellsSts_app,cellsSts_cons,cellsSts_app,cellsSts_cons,List.set_append_right _ _ (by rw [cellsSts_len];omega),cellsSts_len,show A.length*20+i-A.length*20=i by omega,List.set_append_left _ _ (by rw [cellsSt_len];omega),hc]
theorem OwnSts.cellSet {w:World} {lo hi g c:Nat} {A B:List SeatA} {z z':SeatA} (h:OwnSts w lo hi (some ⟨g,0,none⟩) c (A++z::B)) (i:Nat) (v:Value) (hi':i<20) (hc:z'.cells=z.cells.set i v) (hss:z'.ss=z.ss):
  OwnSts (w.setCell ⟨g,A.length*20+i,none⟩ v) lo hi (some ⟨g,0,none⟩) c (A++z'::B)∧Touch [g] w (w.setCell ⟨g,A.length*20+i,none⟩ v):=by
 have hrow:=h.row
 obtain ⟨h1,h2⟩:=hrow.stored (A.length*20+i) v
 have ht:Touch [g] w (w.setCell ⟨g,A.length*20+i,none⟩ v):=Touch.of_grown h2 (fun k hk=>by cases hk;simp)
 have hbl:z'.blocks=z.blocks:=by unfold SeatA.blocks;rw [hss]
 have hap:=h.apart
 have hng:∀ r∈A++z::B,g∉r.blocks:=fun r hr hk=>by
  have:=(List.nodup_append.1 hap).2.2 g (by simp [Value.ownBlock]) g (List.mem_flatMap.2 ⟨r,hr,hk⟩)
  exact this rfl
 have hlen:(A++z'::B).length=(A++z::B).length:=by simp
 have hz:z'.own w lo hi:=by
  have:=h.each z (by simp)
  unfold SeatA.own at this ⊢
  rwa [hss]
 refine ⟨⟨?_,?_,?_,fun r hr=>?_,?_⟩,ht⟩
 ·rw [hlen,← cellsSts_mid A B z z' i v hi' hc]
  exact h1
 ·simpa using h.top
 ·rw [hlen];exact h.blk
 ·rcases List.mem_append.1 hr with hr | hr
  ·exact (h.each r (by simp [hr])).touch ht (fun k hk hk'=>hng r (by simp [hr]) (by rw [← List.mem_singleton.1 hk'];exact hk))
  ·rcases List.mem_cons.1 hr with rfl | hr
   ·exact hz.touch ht (fun k hk hk'=>hng z (by simp) (by rw [← hbl,← List.mem_singleton.1 hk'];exact hk))
   ·exact (h.each r (by simp [hr])).touch ht (fun k hk hk'=>hng r (by simp [hr]) (by rw [← List.mem_singleton.1 hk'];exact hk))
 ·rw [hlen]
  simpa [hbl] using hap
end Go.Proofs.Ytnoeobahjbdoiaa