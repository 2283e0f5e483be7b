/- Several texts in one, in their order. -/
import Derived.Test.YtcoeamamaifoeaaGreatDoorPCrashx5
import Derived.Deep.RegionHeld3
import Derived.Test.YtcoeamamaifoeaaGreatDoorPCrashx1
import Derived.Test.YtcoeamamaifoeaaGreatDoorPCrashx2
import Derived.Deep.QuietTactic
import Derived.BigQuiet
import Derived.Deep.AppendLies
import Derived.Laws.AppendOwnNone
import Derived.Test.YtcoeamamaifoeaaGreatDoorPCrashx4
import Derived.Test.YtcoeamamaifoeaaGreatDoorPCrashx3
import Derived.Laws.CopyOwn
set_option maxHeartbeats 8000000
set_option maxRecDepth 100000
namespace Go.Proofs.YtcoeamamaifoeaaGreatDoor
open Go.RowKit
theorem toHold_any (l:HoldV) (w:World):
  Calls Tryz.prog 60 #[.agg l.cells.toArray] w fun e w'=>e=.returned (.agg l.cells.toArray)∧Below w.heap.size w w':=by
 obtain ⟨x,y⟩:=l
 simp only [HoldV.cells]
 obtain ⟨W,hW,b0,b1,b2,hbW,hsW⟩:=boxes3 w [.int .i64 x,.int .i64 y] [.int .i64 x,.int .i64 y] [.int .i64 x,.int .i64 y] 115 113 113
 have q0:=b1.cell 0 _ rfl
 have q1:=b1.cell 1 _ rfl
 clear b0 b2 hsW
 go_enter Tryz.func60,Tryz.ntmps60
 go_wp2
 rw [hW.out]
 exact bodyPost_ret (v:=.agg #[.int .i64 x,.int .i64 y]) (by simp [results,Tryz.results60,go_sem,q0,q1]) rfl ⟨rfl,hbW⟩
theorem zero_cellsH (n:Nat):(madeCells #[.int .i64 0,.int .i64 0] (n*2)).toList=cellsH (List.replicate n zeroH):=by
 apply List.ext_getElem?
 intro i
 by_cases h:i<n*2
 ·have e:=cellsH_at (List.replicate n zeroH) (i / 2) (i % 2) (by simp;omega) (Nat.mod_lt _ (by omega))
  rw [show i / 2*2+i % 2=i by omega] at e
  rw [e]
  have hg:(List.replicate n zeroH).getD (i / 2) zeroH=zeroH:=by simp [List.getD,show i / 2<n by omega]
  rw [hg]
  simp only [madeCells,Array.toList_map,List.getElem?_map,Array.toList_range,List.getElem?_range h,Option.map_some,HoldV.cells,zeroH]
  have:i % 2<2:=Nat.mod_lt _ (by omega)
  show some (#[Value.int .i64 0,.int .i64 0][i % 2]!)=_
  rcases (by omega:i % 2=0∨i % 2=1) with h' | h'<;>rw [h']<;>rfl
 ·rw [List.getElem?_eq_none (by simp [size_madeCells];omega),List.getElem?_eq_none (by rw [cellsH_len];simp;omega)]
theorem made_hold (n:Nat):(madeCells (Value.agg #[.int .i64 0,.int .i64 0]).cells (n*2)).toList=cellsH (List.replicate n zeroH):=zero_cellsH n
def partH (ls:List HoldV) (k:Nat):List HoldV:=ls.take k++List.replicate (ls.length-k) zeroH
theorem partH_len (ls:List HoldV) (k:Nat) (h:k≤ls.length):(partH ls k).length=ls.length:=by simp [partH];omega
theorem partH_all (ls:List HoldV):partH ls ls.length=ls:=by simp [partH]
theorem partH_none (ls:List HoldV):partH ls 0=List.replicate ls.length zeroH:=by simp [partH]
theorem partH_set (ls:List HoldV) (k:Nat) (h:k<ls.length):(partH ls k).set k (ls.getD k zeroH)=partH ls (k+1):=by
 unfold partH
 rw [List.set_append,if_neg (by simp;omega),List.take_succ_eq_append_getElem h]
 have e:ls.length-k=(ls.length-(k+1))+1:=by omega
 have e2:k-(List.take k ls).length=0:=by simp;omega
 rw [e2,e,List.replicate_succ,List.set_cons_zero]
 simp only [List.getD,h,List.getElem?_eq_getElem,Option.getD_some,List.append_assoc,List.singleton_append]
theorem toHoldS_any (a:Option Addr) (cap:Nat) (ls:List HoldV) (w:World) (hr:ReadsH w a ls) (hl:ls.length≤1099511627776):
  Calls Tryz.prog 24 #[.slice a ls.length cap] w fun e w'=>∃ a' c',e=.returned (.slice a' ls.length c')∧OwnH w' w.heap.size w'.heap.size a' c' ls∧Below w.heap.size w w':=by
 obtain ⟨i0,hi,hz0,hz1,hz2⟩:=info_parts Tryz.infoHold
 rcases hr.cases with rfl | ⟨b,off,rfl,hpos,hcell⟩
 ·go_enter Tryz.func24,Tryz.ntmps24
  go_wp2_with (at_make;refine wpList_make_full _ rfl _ _ 56 rfl w.heap.size 113 i0 (.agg #[.int .i64 0,.int .i64 0]) 2 Tryz.underlying56 hi hz0 hz1 _ _ _ _ 0 rfl rfl (by simp) (by simp) (by omega) (by simp [maxLen]) (Nat.le_refl _) ?_)
  intro w0 hown0 hgrow0
  go_wp2
  refine wp_loop_rounds 1 ?_
  rw [rounds_succ]
  go_wp2
  go_ret
  have ho:w0.ownsRow w.heap.size 113 2 (.slice (some ⟨w.heap.size,0,none⟩) 0 0) 0 (cellsH []):=by
   have e:=made_hold 0
   simp only [List.replicate_zero] at e
   rw [← e]
   exact hown0
  exact ⟨_,_,rfl,⟨ho,Nat.le_refl _,fun k hk=>(ho.lt k hk).2⟩,(Below.refl _ _).grown hgrow0 (Nat.le_refl _) (fun k h=>by cases h)⟩
 ·have hbB:b<w.heap.size:=block_lt (hcell 0 hpos).1
  go_enter Tryz.func24,Tryz.ntmps24
  go_wp2_with (at_make;refine wpList_make_full _ rfl _ _ 56 rfl w.heap.size 113 i0 (.agg #[.int .i64 0,.int .i64 0]) 2 Tryz.underlying56 hi hz0 hz1 _ _ _ _ ls.length rfl rfl rfl rfl (by rw [hz2];omega) (by simp [maxLen];omega) (Nat.le_refl _) ?_)
  intro w0 hown0 hgrow0
  have hown1:w0.ownsRow w.heap.size 113 2 (.slice (some ⟨w.heap.size,0,none⟩) ls.length ls.length) ls.length (cellsH (partH ls 0)):=by
   rw [partH_none,← made_hold]
   exact hown0
  have hb0:Below w.heap.size w w0:=(Below.refl _ _).grown hgrow0 (Nat.le_refl _) (fun k h=>by cases h)
  clear hown0 hgrow0
  go_wp2
  go_loopw [4] (fun i wr=>∃ k:Nat,k≤ls.length∧i=.int .i64 k∧wr.ownsRow w.heap.size 113 2 (.slice (some ⟨w.heap.size,0,none⟩) ls.length ls.length) ls.length (cellsH (partH ls k))∧Below w.heap.size w wr)
   (fun i _=>ls.length-(intOf i).toNat)
  case atStart=>exact ⟨0,Nat.zero_le _,rfl,hown1,hb0⟩
  case round=>
   obtain ⟨k,hk,rfl,hown,hnx⟩:=hrel
   by_cases hlt:k<ls.length
   ·obtain ⟨c0,c1⟩:=hcell k hlt
    have d0:wr.cell? ⟨b,off+k*2,none⟩=_:=(hnx.cell (by exact hbB)).trans c0
    have d1:wr.cell? ⟨b,off+k*2+1,none⟩=_:=(hnx.cell (by exact hbB)).trans c1
    have hp:=partH_len ls k hk
    have HSET:Hid ((partH ls k).set k (ls.getD k zeroH)=partH ls (k+1)):=partH_set ls k hlt
    clear c0 c1 hcell hown1 hb0
    generalize ls.getD k zeroH=z at*
    have C:=toHold_any z wr
    simp only [HoldV.cells] at C
    go_wp2_with fail
    refine C.mono ?_
    clear C d0 d1
    rintro e w1 ⟨rfl,hb1⟩
    have hownA:=ownsRow_block hown (fun j hj=>hb1.block j (hown.lt j hj).2)
    obtain ⟨x0,x1,hfz⟩:=row_hold hownA hp k hlt
    have f0:=hfz (k*2)
    have f1:=hfz (k*2+1)
    obtain ⟨W2,hW2,ho2,hg2⟩:=row_storeH hownA hp k hlt z
    rw [HSET.out] at ho2
    have hB2:Below w.heap.size w W2:=(hnx.trans (hb1.mono hnx.size)).grown hg2 (by have:=hnx.size;have:=hb1.size;omega) (fun j hj=>by cases hj;omega)
    have HH:Hid (_∧_):=⟨ho2,hB2⟩
    clear ho2 hB2 hg2 hfz hownA hown hb1 hnx HSET
    generalize (partH ls k).getD k zeroH=old at*
    go_wp2_with fail
    rw [hW2.out]
    go_roundw
    case rel=>exact ⟨k+1,by omega,by go_num,HH.out.1,HH.out.2⟩
    case measure=>simp [intOf];omega
   ·have HE:Hid (wr.ownsRow w.heap.size 113 2 (.slice (some ⟨w.heap.size,0,none⟩) ls.length ls.length) ls.length (cellsH ls)):=by
     have e:k=ls.length:=by omega
     rw [e,partH_all] at hown
     exact hown
    go_wp2
    go_ret
    exact ⟨_,_,rfl,⟨HE.out,Nat.le_refl _,fun k hk=>(HE.out.lt k hk).2⟩,hnx⟩
theorem eqHold_same (l:HoldV) (w:World):
  Calls Tryz.prog 72 #[.agg l.cells.toArray,.agg l.cells.toArray] w fun e w'=>e=.returned (.bool true)∧Below w.heap.size w w':=by
 obtain ⟨x,y⟩:=l
 simp only [HoldV.cells]
 obtain ⟨W,hW,b0,b1,hbW,hsW⟩:=boxes2 w [.int .i64 x,.int .i64 y] [.int .i64 x,.int .i64 y] 113 113
 clear b0 b1 hsW
 go_enter Tryz.func72,Tryz.ntmps72
 go_wp2
 rw [hW.out]
 go_ret
 exact ⟨rfl,hbW⟩
theorem eqHoldS_same (a b:Option Addr) (ca cb:Nat) (ls:List HoldV) (w:World) (ha:ReadsH w a ls) (hb:ReadsH w b ls) (hl:ls.length≤1099511627776):
  Calls Tryz.prog 33 #[.slice a ls.length ca,.slice b ls.length cb] w fun e w'=>e=.returned (.bool true)∧Below w.heap.size w w':=by
 rcases ha.cases with rfl | ⟨b1,o1,rfl,hpos,hc1⟩
 ·go_enter Tryz.func33,Tryz.ntmps33
  go_wp2
  refine wp_loop_rounds 1 ?_
  rw [rounds_succ]
  go_wp2
  go_ret
  exact ⟨rfl,Below.refl _ _⟩
 ·rcases hb.cases with rfl | ⟨b2,o2,rfl,_,hc2⟩
  ·simp at hpos
  ·go_enter Tryz.func33,Tryz.ntmps33
   go_wp2
   go_loopw [5] (fun i wr=>∃ k:Nat,k≤ls.length∧i=.int .i64 k∧Below w.heap.size w wr) (fun i _=>ls.length-(intOf i).toNat)
   case atStart=>exact ⟨0,Nat.zero_le _,rfl,Below.refl _ _⟩
   case round=>
    obtain ⟨k,hk,rfl,hbl⟩:=hrel
    by_cases hlt:k<ls.length
    ·have h1:=hc1 k hlt
     have h2:=hc2 k hlt
     clear hc1 hc2
     generalize ls.getD k zeroH=z at*
     have HS:Hid (∀ w1,Below w.heap.size w w1→(w1.cell? ⟨b1,o1+k*2,none⟩=some (.int .i64 z.tx)∧w1.cell? ⟨b1,o1+k*2+1,none⟩=some (.int .i64 z.oid))∧(w1.cell? ⟨b2,o2+k*2,none⟩=some (.int .i64 z.tx)∧w1.cell? ⟨b2,o2+k*2+1,none⟩=some (.int .i64 z.oid))):=fun w1 hh=>
      ⟨⟨(hh.cell (block_lt h1.1)).trans h1.1,(hh.cell (block_lt h1.2)).trans h1.2⟩,(hh.cell (block_lt h2.1)).trans h2.1,(hh.cell (block_lt h2.2)).trans h2.2⟩
     have hh:=HS.out wr hbl
     clear h1 h2
     go_wp2_with fail
     go_region_held3 (fun w1=>(w1.cell? ⟨b1,o1+k*2,none⟩=some (.int .i64 z.tx)∧w1.cell? ⟨b1,o1+k*2+1,none⟩=some (.int .i64 z.oid))∧(w1.cell? ⟨b2,o2+k*2,none⟩=some (.int .i64 z.tx)∧w1.cell? ⟨b2,o2+k*2+1,none⟩=some (.int .i64 z.oid)))
      (first | exact HS.out _ hw2 | go_keep | fail)
      ((first | (go_at_call 72;refine (eqHold_same z _).mono ?_;rintro e w2 ⟨rfl,hb2⟩;have hw2:Below w.heap.size w w2:=(hbl.drew).trans (hb2.mono hbl.size)) | fail))
     all_goals
      go_wp2_with fail
      go_roundw
      case rel=>exact ⟨k+1,by omega,by go_num,hw2⟩
      case measure=>simp [intOf];omega
    ·go_wp2
     go_ret
     exact ⟨rfl,hbl⟩
def markH1 (k0:Int) (i:Nat):HoldV:=⟨k0+2*i,k0+2*i+1⟩
def marksH (k0:Int) (n:Nat):List HoldV:=(List.range n).map fun i:Nat=>markH1 k0 i
theorem marksH_len (k0:Int) (n:Nat):(marksH k0 n).length=n:=by simp [marksH]
theorem marksH_at (k0:Int) (n i:Nat) (h:i<n):(marksH k0 n).getD i zeroH=markH1 k0 i:=by simp [marksH,List.getD,h]
theorem marksH_succ (k0:Int) (n:Nat):marksH k0 (n+1)=marksH k0 n++[markH1 k0 n]:=by simp [marksH,List.range_succ]
def markedH (k0:Int) (xs:List HoldV) (k:Nat):List HoldV:=marksH k0 k++xs.drop k
theorem markedH_len (k0:Int) (xs:List HoldV) (k:Nat) (h:k≤xs.length):(markedH k0 xs k).length=xs.length:=by simp [markedH,marksH_len];omega
theorem markedH_set (k0:Int) (xs:List HoldV) (k:Nat) (h:k<xs.length):(markedH k0 xs k).set k (markH1 k0 k)=markedH k0 xs (k+1):=by
 unfold markedH
 rw [List.set_append,if_neg (by rw [marksH_len];omega),marksH_len,Nat.sub_self,marksH_succ,List.drop_eq_getElem_cons h,List.set_cons_zero]
 simp
theorem markedH_all (k0:Int) (xs:List HoldV):markedH k0 xs xs.length=marksH k0 xs.length:=by simp [markedH]
theorem markHoldS_any (base:Nat) (a:Option Addr) (cap:Nat) (k0:Int) (xs:List HoldV) (w:World)
  (hown:w.ownsRow base 113 2 (.slice a xs.length cap) xs.length (cellsH xs)) (h0:0≤k0) (hl:k0+2*xs.length≤4611686018427387904):
  Calls Tryz.prog 38 #[.slice a xs.length cap,.int .i64 k0] w fun e w'=>e=.returned (.int .i64 (k0+2*xs.length))∧
   w'.ownsRow base 113 2 (.slice a xs.length cap) xs.length (cellsH (marksH k0 xs.length))∧w.grownBy w' (Value.slice a xs.length cap).ownBlock:=by
 have hlen:=hown.1
 rcases hown.2 with ⟨hv,h00⟩ | ⟨g,cap',cur,hv,hg,hgg,hr⟩
 ·simp only [Value.slice.injEq] at hv
  obtain ⟨rfl,h00',rfl⟩:=hv
  obtain rfl:=List.length_eq_zero_iff.1 h00
  go_enter Tryz.func38,Tryz.ntmps38
  go_wp2
  refine wp_loop_rounds 1 ?_
  rw [rounds_succ]
  go_wp2
  go_ret
  exact ⟨by simp,hown,World.grownBy.refl _ _⟩
 ·simp only [Value.slice.injEq] at hv
  obtain ⟨rfl,_,rfl⟩:=hv
  clear hgg hr hlen
  have hM:w.ownsRow base 113 2 (.slice (some ⟨g,0,none⟩) xs.length cap) xs.length (cellsH (markedH k0 xs 0)):=by simpa [markedH,marksH] using hown
  clear hown
  go_enter Tryz.func38,Tryz.ntmps38
  go_wp2
  go_loopw [1,5] (fun kk i wr=>∃ k:Nat,k≤xs.length∧i=.int .i64 k∧kk=.int .i64 (k0+2*k)∧wr.ownsRow base 113 2 (.slice (some ⟨g,0,none⟩) xs.length cap) xs.length (cellsH (markedH k0 xs k))∧w.grownBy wr (some g))
   (fun _ i _=>xs.length-(intOf i).toNat)
  case atStart=>exact ⟨0,Nat.zero_le _,rfl,by simp,hM,World.grownBy.refl _ _⟩
  case round=>
   obtain ⟨k,hk,rfl,rfl,hown,hgr⟩:=hrel
   clear hM
   by_cases hlt:k<xs.length
   ·have hp:=markedH_len k0 xs k hk
    obtain ⟨x0,x1,hfz⟩:=row_hold hown hp k hlt
    have f0:=hfz (k*2)
    have f1:=hfz (k*2+1)
    obtain ⟨W2,hW2,ho2,hg2⟩:=row_storeH hown hp k hlt (markH1 k0 k)
    rw [markedH_set k0 xs k hlt] at ho2
    have HH:Hid (_∧_):=⟨ho2,grownBy_trans hgr hg2⟩
    clear ho2 hg2 hfz hown hgr
    generalize (markedH k0 xs k).getD k zeroH=old at*
    simp only [markH1] at hW2
    go_wp2
    rw [hW2.out]
    go_roundw
    case rel=>exact ⟨k+1,by omega,by go_num,by go_num,HH.out.1,HH.out.2⟩
    case measure=>simp [intOf];omega
   ·have HE:Hid (wr.ownsRow base 113 2 (.slice (some ⟨g,0,none⟩) xs.length cap) xs.length (cellsH (marksH k0 xs.length))∧k=xs.length):=by
     have e:k=xs.length:=by omega
     rw [e,markedH_all] at hown
     exact ⟨hown,e⟩
    go_wp2
    go_ret
    exact ⟨ret_int (by have:=HE.out.2;omega),HE.out.1,hgr⟩
theorem markHoldS_own (lo hi:Nat) (a:Option Addr) (cap:Nat) (k0:Int) (xs:List HoldV) (w:World) (ho:OwnH w lo hi a cap xs) (h0:0≤k0) (hl:k0+2*xs.length≤4611686018427387904):
  Calls Tryz.prog 38 #[.slice a xs.length cap,.int .i64 k0] w fun e w'=>e=.returned (.int .i64 (k0+2*xs.length))∧
   OwnH w' lo hi a cap (marksH k0 xs.length)∧Touch (Value.slice a xs.length cap).ownBlock.toList w w':=by
 refine (markHoldS_any lo a cap k0 xs w ho.1 h0 hl).mono ?_
 rintro e w' ⟨rfl,h1,h2⟩
 refine ⟨rfl,⟨by rw [marksH_len];exact h1,Nat.le_trans ho.2.1 h2.size,by rw [marksH_len];exact ho.2.2⟩,Touch.of_grown h2 (fun j hj=>Option.mem_toList.2 hj)⟩
theorem heldHoldS_any (a:Option Addr) (cap:Nat) (k0:Int) (n:Nat) (w:World) (hr:ReadsH w a (marksH k0 n)) (h0:0≤k0) (hl:k0+2*n≤4611686018427387904):
  Calls Tryz.prog 43 #[.slice a n cap,.int .i64 k0] w fun e w'=>e=.returned (.int .i64 (k0+2*n))∧w'=w:=by
 rcases hr.cases with h | ⟨b,off,rfl,hpos,hcell⟩
 ·have h':=congrArg List.length h
  rw [marksH_len] at h'
  simp at h'
  subst h'
  go_enter Tryz.func43,Tryz.ntmps43
  go_wp2
  refine wp_loop_rounds 1 ?_
  rw [rounds_succ]
  go_wp2
  go_ret
  exact ⟨by simp,rfl⟩
 ·rw [marksH_len] at hpos hcell
  go_enter Tryz.func43,Tryz.ntmps43
  go_wp2
  go_loop [1,5] (fun kk i=>∃ k:Nat,k≤n∧i=.int .i64 k∧kk=.int .i64 (k0+2*k)) (fun _ i=>n-(intOf i).toNat)
  case atStart=>exact ⟨0,Nat.zero_le _,rfl,by simp⟩
  case round=>
   obtain ⟨k,hk,rfl,rfl⟩:=hrel
   by_cases hlt:k<n
   ·obtain ⟨c0,c1⟩:=hcell k hlt
    rw [marksH_at k0 n k hlt] at c0 c1
    simp only [markH1] at c0 c1
    clear hcell
    go_wp2
    go_round
    case rel=>exact ⟨k+1,by omega,by go_num,by go_num⟩
    case measure=>simp [intOf];omega
   ·have HE:Hid (k=n):=by show k=n;omega
    go_wp2
    go_ret
    exact ⟨ret_int (by have:=HE.out;omega),rfl⟩
theorem Reads.grown {w w':World} {a:Option Addr} {zs:List Int} {B:Nat} (h:Reads w a zs) (hg:w.grownBy w' (some B)) (hne:zs≠[]→∀ b off,a=some ⟨b,off,none⟩→b≠B):Reads w' a zs:=by
 refine ⟨h.1,fun e=>?_⟩
 obtain ⟨b,off,ha,hc⟩:=h.2 e
 refine ⟨b,off,ha,fun i hi=>hg.cell (hc i hi) ?_⟩
 intro he
 exact hne e b off ha (Option.some.inj he)
theorem run_append_ints {w:World} (ty:TypeId) (lo hi:Nat) (a:Option Addr) (c:Nat) (xs:List Int) (hown:OwnI w lo hi a c xs)
  (sa:Option Addr) (sc:Nat) (zs:List Int) (hr:ReadsI w sa zs) (hc:sa=none→sc=0) (hb:xs.length+zs.length≤1099511627776) (hlo:lo≤w.heap.size):
  ∃ a' c' ys w',(Builtin.append_ #[22,22] ty #[.slice a xs.length c,.slice sa zs.length sc]).run Tryz.prog w=.ok (.slice a' ys.length c') w'∧Hid (ys=xs++zs)∧OwnI w' lo w'.heap.size a' c' ys∧w.grownBy w' (Value.slice a xs.length c).ownBlock∧
   (∀ k,(Value.slice a' ys.length c').ownBlock=some k→(Value.slice a xs.length c).ownBlock=some k∨k=w.heap.size):=by
 obtain ⟨i0,hi0,hz0,hz1,hz2⟩:=info_parts Tryz.infoInt
 cases sa with
 | none=>
  have hz:zs=[]:=by
   by_cases e:zs=[]
   ·exact e
   ·obtain ⟨b,off,hh,_⟩:=hr e
    cases hh
  subst hz
  have:=hc rfl
  subst this
  refine ⟨a,c,xs,w,run_append_owned_none (P:=Tryz.prog) (w:=w) lo 22 ty 3 i0 1 Tryz.underlying22 hi0 _ _ _ hown.1,(by simp [Hid]),⟨hown.1,Nat.le_refl _,fun k hk=>(hown.1.lt k hk).2⟩,World.grownBy.refl _ _,fun k hk=>.inl hk⟩
 | some ad=>
  obtain ⟨v',w',h1,h2,h3,_,h5⟩:=run_append_own_at (P:=Tryz.prog) w lo 22 ty 3 i0 (.int .i64 0) 1 8 Tryz.underlying22 hi0 hz0 hz1 hz2 rfl (by decide) _ _ _ hown.1 ad zs.length sc (zs.map (Value.int .i64)) (by simp) (by
   intro j u hj
   have hjl:j<zs.length:=by
    by_cases e:j<zs.length
    ·exact e
    ·simp [List.getElem?_eq_none (Nat.le_of_not_lt e)] at hj
   have hne:zs≠[]:=by intro e;simp [e] at hjl
   obtain ⟨b,off,hh,hcell⟩:=hr hne
   cases hh
   rw [Addr_add,hcell j hjl]
   simpa [hjl] using hj) (ints_oneCell _ _) (by simp only [maxLen];omega) (by omega) hlo
  rw [← List.map_append,← List.length_append] at h2
  have sh:∃ a' c',v'=.slice a' (xs++zs).length c':=by
   rcases h2.2 with ⟨rfl,h0⟩ | ⟨g,cap,cur,rfl,_⟩
   ·exact ⟨none,0,by rw [h0]⟩
   ·exact ⟨_,_,rfl⟩
  obtain ⟨a',c',rfl⟩:=sh
  refine ⟨a',c',xs++zs,w',h1,rfl,⟨h2,Nat.le_refl _,fun k hk=>(h2.lt k hk).2⟩,h3,fun k hk=>?_⟩
  rcases h5 with h5 | h5
  ·exact .inl (by rw [← h5];exact hk)
  ·rw [h5] at hk
   exact .inr (Option.some.inj hk).symm
theorem step_append_ints {w:World} {ops:Array Oper} {o:Oper} {act:Act} {K:Act→World→Prop} {Q:Exit→Act→World→Prop} {E:Prop} (hgd:o.guard=none) (s x:Operand)
  (ho:o.op=.call { callee:=.builtin .append,args:=#[s,x],argTypes:=#[22,22] })
  (lo hi:Nat) (a:Option Addr) (c:Nat) (xs:List Int) (hs:act.eval s=.slice a xs.length c) (hown:OwnI w lo hi a c xs)
  (sa:Option Addr) (sc:Nat) (zs:List Int) (hx:act.eval x=.slice sa zs.length sc) (hr:ReadsI w sa zs) (hc:sa=none→sc=0)
  (hb:xs.length+zs.length≤1099511627776) (hlo:lo≤w.heap.size)
  (h:∀ a' c' ys w',Hid (ys=xs++zs)→OwnI w' lo w'.heap.size a' c' ys→w.grownBy w' (Value.slice a xs.length c).ownBlock→
   (∀ k,(Value.slice a' ys.length c').ownBlock=some k→(Value.slice a xs.length c).ownBlock=some k∨k=w.heap.size)→K (act.put o.dst (.slice a' ys.length c')) w'):
  if Region.wanted o (yielded ops act.tmps)=true then Oper.wp Tryz.prog o act w K Q else E:=by
 have hw:Region.wanted o (yielded ops act.tmps)=true:=by simp [Region.wanted,hgd]
 rw [if_pos hw]
 obtain ⟨a',c',ys,w',hrun,h1,h2,h3,h4⟩:=run_append_ints (w:=w) o.type lo hi a c xs hown sa sc zs hr hc hb hlo
 unfold Oper.wp execOp
 simp only [ho,resolve,invoke,builtin,Sem.run_bind,Sem.run_pure,Result.andThen_ok,List.map_toArray,List.map_cons,List.map_nil,hs,hx,hrun]
 exact h a' c' ys w' h1 h2 h3 h4
structure ObjAt (w:World) (lo Bo:Nat) (o:ObjV) (aI:Option Addr) (cI:Nat) (aR:Option Addr) (cR:Nat):Prop where
 box:Box w Bo [.int .i64 o.kind,.slice aI o.ints.length cI,.slice aR o.refs.length cR] 42
 own:OwnO w lo w.heap.size aI cI aR cR o
 lt:Bo<lo
theorem OwnO.kept {w w':World} {lo hi:Nat} {aI:Option Addr} {cI:Nat} {aR:Option Addr} {cR:Nat} {o:ObjV} {B:Nat} (h:OwnO w lo hi aI cI aR cR o) (hg:w.grownBy w' (some B)) (hB:B<lo):OwnO w' lo w'.heap.size aI cI aR cR o:=by
 have h1:=h.ints.kept hg (fun k hk e=>by have:=(h.ints.lt k hk).1;cases e;omega)
 have h2:=h.refs.kept hg (fun k hk e=>by have:=(h.refs.lt k hk).1;cases e;omega)
 exact ⟨h1.widen (Nat.le_refl _) h1.2.1 (Nat.le_refl _),h2.widen (Nat.le_refl _) h2.2.1 (Nat.le_refl _),h.apart⟩
theorem ObjAt.kept {w w':World} {lo Bo:Nat} {aI:Option Addr} {cI:Nat} {aR:Option Addr} {cR:Nat} {o:ObjV} {B:Nat} (h:ObjAt w lo Bo o aI cI aR cR) (hg:w.grownBy w' (some B)) (hB:B<Bo):ObjAt w' lo Bo o aI cI aR cR:=
 ⟨h.box.block (hg.block Bo h.box.lt (fun e=>by cases e;omega)),h.own.kept hg (by have:=h.lt;omega),h.lt⟩
theorem ObjAt.alloc {w:World} {lo Bo:Nat} {aI:Option Addr} {cI:Nat} {aR:Option Addr} {cR:Nat} {o:ObjV} (h:ObjAt w lo Bo o aI cI aR cR) (ob:Obj):ObjAt (w.alloc ob) lo Bo o aI cI aR cR:=
 ⟨h.box.alloc ob,(h.own.below ((Below.refl _ _).alloc (Nat.le_refl _) ob)).widen (Nat.le_refl _) (by simp) (Nat.le_refl _),h.lt⟩
theorem ObjAt.drew {w:World} {lo Bo:Nat} {aI:Option Addr} {cI:Nat} {aR:Option Addr} {cR:Nat} {o:ObjV} (h:ObjAt w lo Bo o aI cI aR cR):ObjAt w.drew lo Bo o aI cI aR cR:=
 ⟨h.box,h.own.below (Below.refl _ _).drew,h.lt⟩
theorem ObjAt.three {w:World} {lo Bo:Nat} {aI:Option Addr} {cI:Nat} {aR:Option Addr} {cR:Nat} {o:ObjV} (h:ObjAt w lo Bo o aI cI aR cR):
  w.cell? ⟨Bo,0,none⟩=some (.int .i64 o.kind)∧w.cell? ⟨Bo,1,none⟩=some (.slice aI o.ints.length cI)∧w.cell? ⟨Bo,2,none⟩=some (.slice aR o.refs.length cR)∧w.frozen? ⟨Bo,0,none⟩=false∧w.frozen? ⟨Bo,1,none⟩=false∧w.frozen? ⟨Bo,2,none⟩=false:=h.box.three
theorem Box.grown {w w':World} {C B:Nat} {vs:List Value} {t:TypeId} (h:Box w C vs t) (hg:w.grownBy w' (some B)) (hne:C≠B):Box w' C vs t:=h.block (hg.block C h.lt (fun e=>hne (Option.some.inj e)))
theorem blA {W w':World} (h:Below W.heap.size W w') (o:Obj):Below W.heap.size W (w'.alloc o):=h.alloc h.size o
theorem blG {W w' w2:World} {g:Nat} (h:Below W.heap.size W w') (hg:w'.grownBy w2 (some g)) (hn:W.heap.size≤g):Below W.heap.size W w2:=h.grown hg h.size (fun k e=>by cases e;exact hn)
theorem ownI_box0 {w:World} {g lo:Nat} (h:Box w g [] 3) (hlo:lo≤g):OwnI w lo w.heap.size (some ⟨g,0,none⟩) 0 []:=
 ⟨⟨by simp,.inr ⟨g,0,#[],rfl,hlo,h,Nat.le_refl _,by simp [maxLen],rfl,rfl⟩⟩,Nat.le_refl _,fun k hk=>by cases hk;exact h.lt⟩
theorem l2Copy_any (o:ObjV) (aI:Option Addr) (cI:Nat) (aR:Option Addr) (cR:Nat) (w:World) (hr:ReadsO w aI cI aR cR o) (hlI:o.ints.length≤1099511627776) (hlR:o.refs.length≤1099511627776):
  Calls Tryz.prog 112 #[.agg #[.int .i64 o.kind,.slice aI o.ints.length cI,.slice aR o.refs.length cR]] w fun e w'=>∃ aI' cI' aR' cR',e=.returned (.agg #[.int .i64 o.kind,.slice aI' o.ints.length cI',.slice aR' o.refs.length cR'])∧
   OwnO w' w.heap.size w'.heap.size aI' cI' aR' cR' o∧Below w.heap.size w w':=by
 obtain ⟨k,ints,refs⟩:=o
 obtain ⟨hI,hR,hni,hnr⟩:=hr
 simp only at*
 obtain ⟨W,hW,b0,b1,hbW,hsW⟩:=boxes2 w [.int .i64 k,.slice aI ints.length cI,.slice aR refs.length cR] [.int .i64 0,.slice none 0 0,.slice none 0 0] 42 42
 have hI':=hI.below hbW
 have hR':=hR.below hbW
 have hwW:w.heap.size+1<W.heap.size:=by omega
 clear hsW hI hR
 go_enter Tryz.func112,Tryz.ntmps112
 go_wp2_with fail
 rw [hW.out]
 clear hW
 have hkeep:∀ w'',Below W.heap.size W w''→Box w'' w.heap.size [.int .i64 k,.slice aI ints.length cI,.slice aR refs.length cR] 42∧Box w'' (w.heap.size+1) [.int .i64 0,.slice none 0 0,.slice none 0 0] 42:=
  fun w'' hh=>⟨b0.below hh b0.lt,b1.below hh b1.lt⟩
 have hcells:∀ w'',Below W.heap.size W w''→(w''.cell? ⟨w.heap.size,0,none⟩=some (.int .i64 k)∧w''.cell? ⟨w.heap.size,1,none⟩=some (.slice aI ints.length cI)∧w''.cell? ⟨w.heap.size,2,none⟩=some (.slice aR refs.length cR))∧(w''.cell? ⟨w.heap.size+1,0,none⟩=some (.int .i64 0)∧w''.cell? ⟨w.heap.size+1,1,none⟩=some (.slice none 0 0)∧w''.cell? ⟨w.heap.size+1,2,none⟩=some (.slice none 0 0))∧(w''.frozen? ⟨w.heap.size+1,0,none⟩=false∧w''.frozen? ⟨w.heap.size+1,1,none⟩=false∧w''.frozen? ⟨w.heap.size+1,2,none⟩=false):=by
  intro w'' hh
  obtain ⟨ba,bb⟩:=hkeep w'' hh
  exact ⟨⟨ba.cell 0 _ rfl,ba.cell 1 _ rfl,ba.cell 2 _ rfl⟩,⟨bb.cell 0 _ rfl,bb.cell 1 _ rfl,bb.cell 2 _ rfl⟩,bb.frozen 0,bb.frozen 1,bb.frozen 2⟩
 have hh:=hcells W (Below.refl _ _)
 have q1:Box (W.drew.alloc (.cells #[] 3)) W.heap.size [] 3:=box_new W.drew [] _
 have q2a:Box ((W.drew.alloc (.cells #[] 3)).alloc (.cells #[] 3)) W.heap.size [] 3:=(box_new W.drew [] _).alloc _
 have q2b:Box ((W.drew.alloc (.cells #[] 3)).alloc (.cells #[] 3)) (W.heap.size+1) [] 3:=by
  have:=box_new (W.drew.alloc (.cells #[] 3)) [] 3
  simpa using this
 have Q1:Hid (_∧_∧_):=⟨q1,q2a,q2b⟩
 clear q1 q2a q2b
 have HK:Hid _:=hkeep
 have HC:Hid _:=hcells
 have hne:¬ (w.heap.size=w.heap.size+1):=by omega
 have HNI:Hid _:=hni
 have HNR:Hid _:=hnr
 clear hkeep hcells b0 b1 hni hnr
 go_region_held3 (fun w''=>w''.cell? ⟨w.heap.size,0,none⟩=some (.int .i64 k)∧w''.cell? ⟨w.heap.size,1,none⟩=some (.slice aI ints.length cI)∧w''.cell? ⟨w.heap.size,2,none⟩=some (.slice aR refs.length cR))
  (first | exact (HC.out _ (by first | exact hb2 | exact hb1 | exact blA hb2 _ | exact blA hb1 _ | exact (Below.refl _ _).drew | exact blA (Below.refl _ _).drew _ | exact blA (blA (Below.refl _ _).drew _) _ | fail)).1 | exact ⟨((((HK.out _ (by first | exact hb2 | exact hb1 | fail)).1.other hne).other hne).other hne).cell 0 _ rfl,((((HK.out _ (by first | exact hb2 | exact hb1 | fail)).1.other hne).other hne).other hne).cell 1 _ rfl,((((HK.out _ (by first | exact hb2 | exact hb1 | fail)).1.other hne).other hne).other hne).cell 2 _ rfl⟩ | go_keep | fail)
  ((first
   | (refine step_append_ints rfl (.tmp 5) (.tmp 7) (by rfl) (w.heap.size+1+1) _ _ _ [] (by rfl) (ownI_box0 (by first | exact Q1.out.1 | exact Q1.out.2.1 | exact Q1.out.2.2 | assumption | exact (Q1.out.2.2).grown hg1 (by dsimp only;omega) | exact (Q1.out.2.1).grown hg1 (by dsimp only;omega) | exact box_new _ [] _ | fail) (by first | omega | (have:=hb1.size;omega))) aI cI ints (by rfl) (hI'.below (by first | exact hb2 | exact hb1 | exact blA hb2 _ | exact blA hb1 _ | exact (Below.refl _ _).drew | exact blA (Below.refl _ _).drew _ | exact blA (blA (Below.refl _ _).drew _) _ | fail)) HNI.out (by simp only [List.length_nil];omega) (Nat.le_trans (by omega) (Below.size (B:=W.heap.size) (w:=W) (by first | exact hb2 | exact hb1 | exact blA hb2 _ | exact blA hb1 _ | exact (Below.refl _ _).drew | exact blA (Below.refl _ _).drew _ | exact blA (blA (Below.refl _ _).drew _) _ | fail))) ?_;intro a1 c1 y1 u1 hy1 hO1 hg1 hat1;have HA1:Hid _:=hat1;clear hat1;have hyy:ints=y1:=(by simpa using hy1.out.symm);subst hyy;have hb1:=blG (W:=W) (by first | exact hb2 | exact hb1 | exact blA hb2 _ | exact blA hb1 _ | exact (Below.refl _ _).drew | exact blA (Below.refl _ _).drew _ | exact blA (blA (Below.refl _ _).drew _) _ | fail) hg1 (by dsimp only;omega))
   | (refine step_append_ints rfl (.tmp 9) (.tmp 11) (by rfl) (w.heap.size+1+1) _ _ _ [] (by rfl) (ownI_box0 (by first | exact Q1.out.1 | exact Q1.out.2.1 | exact Q1.out.2.2 | assumption | exact (Q1.out.2.2).grown hg1 (by dsimp only;omega) | exact (Q1.out.2.1).grown hg1 (by dsimp only;omega) | exact box_new _ [] _ | fail) (by first | omega | (have:=hb1.size;omega))) aR cR refs (by rfl) (hR'.below (by first | exact hb2 | exact hb1 | exact blA hb2 _ | exact blA hb1 _ | exact (Below.refl _ _).drew | exact blA (Below.refl _ _).drew _ | exact blA (blA (Below.refl _ _).drew _) _ | fail)) HNR.out (by simp only [List.length_nil];omega) (Nat.le_trans (by omega) (Below.size (B:=W.heap.size) (w:=W) (by first | exact hb2 | exact hb1 | exact blA hb2 _ | exact blA hb1 _ | exact (Below.refl _ _).drew | exact blA (Below.refl _ _).drew _ | exact blA (blA (Below.refl _ _).drew _) _ | fail))) ?_;intro a2 c2 y2 u2 hy2 hO2 hg2 hat2;have HA2:Hid _:=hat2;clear hat2;have hyy:refs=y2:=(by simpa using hy2.out.symm);subst hyy;have hb2:=blG (W:=W) (by first | exact hb2 | exact hb1 | exact blA hb2 _ | exact blA hb1 _ | exact (Below.refl _ _).drew | exact blA (Below.refl _ _).drew _ | exact blA (blA (Below.refl _ _).drew _) _ | fail) hg2 (by dsimp only;first | omega | (have:=hb1.size;omega));obtain ⟨⟨m0,m1,m2⟩,⟨n0,n1,n2⟩,e0,e1,e2⟩:=HC.out _ hb2) | fail))
 all_goals
  have hO1':OwnI u2 (w.heap.size+1+1) u2.heap.size a1 c1 ints:=by
   first
   | exact (hO1.kept hg2 (fun k hk e=>by have h1:=HA1.out k hk;have h2:=(hO1.lt k hk).2;simp [Value.ownBlock] at h1 e;omega)).widen (Nat.le_refl _) hg2.size (Nat.le_refl _)
   | exact ((hO1.below ((Below.refl _ _).alloc (Nat.le_refl _) _)).kept hg2 (fun k hk e=>by have h2:=(hO1.lt k hk).2;simp [Value.ownBlock] at e;omega)).widen (Nat.le_refl _) (Nat.le_trans (by simp) hg2.size) (Nat.le_refl _)
   | fail
  have hap:∀ k,(Value.slice a1 ints.length c1).ownBlock=some k→(Value.slice a2 refs.length c2).ownBlock≠some k:=by
   intro k hk hk'
   have h1:=HA1.out k hk
   have h2:=HA2.out k hk'
   have h3:=(hO1.lt k hk).2
   simp [Value.ownBlock] at h1 h2
   omega
  obtain ⟨WF,hWF,bF,hwF,hsF⟩:=box3_fill (HK.out _ hb2).2 (.int .i64 k) (.slice a1 ints.length c1) (.slice a2 refs.length c2)
  clear HA1 HA2 hg1 hg2 Q1 hb1 hO1
  rw [hWF.out]
  go_wp2
  obtain ⟨q0,q1,q2,_,_,_⟩:=bF.three
  have hs2:=hb2.size
  have hOF:OwnO WF (w.heap.size+1+1) u2.heap.size a1 c1 a2 c2 ⟨k,ints,refs⟩:=(⟨hO1',hO2,hap⟩:OwnO u2 (w.heap.size+1+1) u2.heap.size a1 c1 a2 c2 ⟨k,ints,refs⟩).within hwF (.inr (by omega))
  exact bodyPost_ret (v:=.agg #[.int .i64 k,.slice a1 ints.length c1,.slice a2 refs.length c2]) (by simp [results,Tryz.results112,go_sem,q0,q1,q2]) rfl ⟨a1,c1,a2,c2,rfl,hOF.widen (by omega) (by omega) (Nat.le_refl _),(hbW.trans (hb2.mono (by omega))).trans (hwF.below (by omega) (by omega))⟩
theorem set_cons1 (v x:Value) (L:List Value) (i:Nat):(v::L).set (1+i) x=v::L.set i x:=by rw [Nat.add_comm,List.set_cons_succ]
theorem pslot_fill {w:World} {B:Nat} {v:Value} {ss:List SlotA} {ty:TypeId} (b:Box w B (v::cellsS ss) ty) (k:Nat) (hk:k<ss.length) (t:SlotA):
  ∃ W,Hid ((((w.setCell ⟨B,1+k*4,none⟩ (.bool t.v.has)).setCell ⟨B,1+k*4+1,none⟩ (.int .i64 t.v.o.kind)).setCell ⟨B,1+k*4+2,none⟩ (.slice t.aI t.v.o.ints.length t.cI)).setCell ⟨B,1+k*4+3,none⟩ (.slice t.aR t.v.o.refs.length t.cR)=W)∧Box W B (v::cellsS (ss.set k t)) ty∧Within B (B+1) w W∧W.heap.size=w.heap.size:=by
 refine ⟨_,rfl,?_,?_,?_⟩
 ·have:=(((b.set (1+k*4) (.bool t.v.has)).set (1+k*4+1) (.int .i64 t.v.o.kind)).set (1+k*4+2) (.slice t.aI t.v.o.ints.length t.cI)).set (1+k*4+3) (.slice t.aR t.v.o.refs.length t.cR)
  rw [Nat.add_assoc,Nat.add_assoc 1 (k*4) 2,Nat.add_assoc 1 (k*4) 3,set_cons1,set_cons1,set_cons1,set_cons1,cellsS_set ss k hk t] at this
  rw [Nat.add_assoc,Nat.add_assoc 1 (k*4) 2,Nat.add_assoc 1 (k*4) 3]
  exact this
 ·exact (((within_set w B _ _ (by omega)).trans (within_set _ B _ _ (by omega))).trans (within_set _ B _ _ (by omega))).trans (within_set _ B _ _ (by omega))
 ·simp
theorem OwnS.set {w:World} {lo mid mid' hi:Nat} {ss:List SlotA} {t:SlotA} (h:OwnS w lo mid ss) (k:Nat) (ht:t.own w mid' hi) (h1:lo≤mid') (h2:mid≤mid') (h3:mid'≤hi):OwnS w lo hi (ss.set k t):=by
 have hhi:hi≤w.heap.size:=ht.ints.2.1
 refine ⟨fun s hs=>?_,?_⟩
 ·rcases List.mem_or_eq_of_mem_set hs with h' | rfl
  ·exact OwnO.widen (h.each s h') (Nat.le_refl _) (by omega) hhi
  ·exact OwnO.widen ht h1 (Nat.le_refl _) hhi
 ·have hb:=SlotA.blocks_lt ht
  have hn:=SlotA.blocks_nodup ht
  have hl:=h.blocks_lt
  have ha:=h.apart
  clear h ht
  induction ss generalizing k with
  | nil=>exact ha
  | cons s r ih=>
   rw [List.flatMap_cons,List.nodup_append] at ha
   cases k with
   | zero=>
    rw [List.set_cons_zero,List.flatMap_cons,List.nodup_append]
    refine ⟨hn,ha.2.1,fun a ha' b hb' e=>?_⟩
    have h5:=(hb a ha').1
    have h6:=(hl b (by rw [List.flatMap_cons];exact List.mem_append.2 (.inr hb'))).2
    omega
   | succ k=>
    rw [List.set_cons_succ,List.flatMap_cons,List.nodup_append]
    refine ⟨ha.1,ih k (fun x hx=>hl x (by rw [List.flatMap_cons];exact List.mem_append.2 (.inr hx))) ha.2.1,fun a ha' b hb' e=>?_⟩
    subst e
    obtain ⟨x,hx,hbx⟩:=List.mem_flatMap.1 hb'
    rcases List.mem_or_eq_of_mem_set hx with h' | rfl
    ·exact ha.2.2 a ha' a (List.mem_flatMap.2 ⟨x,h',hbx⟩) rfl
    ·have h5:=(hb a hbx).1
     have h6:=(hl a (by rw [List.flatMap_cons];exact List.mem_append.2 (.inl ha'))).2
     omega
theorem l3CopySlot_own (s:SlotA) (w:World) (hr:s.reads w) (hlI:s.v.o.ints.length≤1099511627776) (hlR:s.v.o.refs.length≤1099511627776):
  Calls Tryz.prog 84 #[.agg s.cells.toArray] w fun e w'=>∃ t:SlotA,e=.returned (.agg t.cells.toArray)∧Hid (t.v=s.v)∧t.own w' w.heap.size w'.heap.size∧Below w.heap.size w w':=by
 obtain ⟨⟨h,⟨k,ints,refs⟩⟩,aI,cI,aR,cR⟩:=s
 simp only [SlotA.cells,SlotA.reads,SlotA.own] at*
 obtain ⟨W,hW,b0,b1,hbW,hsW⟩:=boxes2 w [.bool h,.int .i64 k,.slice aI ints.length cI,.slice aR refs.length cR] [.bool false,.int .i64 0,.slice none 0 0,.slice none 0 0] 44 44
 have hr':=hr.below hbW
 have hwW:w.heap.size+1<W.heap.size:=by omega
 clear hsW
 have HC:Hid (∀ w'',Below W.heap.size W w''→w''.cell? ⟨w.heap.size,0,none⟩=some (.bool h)∧w''.cell? ⟨w.heap.size,1,none⟩=some (.int .i64 k)∧w''.cell? ⟨w.heap.size,2,none⟩=some (.slice aI ints.length cI)∧w''.cell? ⟨w.heap.size,3,none⟩=some (.slice aR refs.length cR)):=by
  intro w'' hh
  have ba:=b0.below hh b0.lt
  exact ⟨ba.cell 0 _ rfl,ba.cell 1 _ rfl,ba.cell 2 _ rfl,ba.cell 3 _ rfl⟩
 have HB:Hid (∀ w'',Below W.heap.size W w''→Box w'' w.heap.size [.bool h,.int .i64 k,.slice aI ints.length cI,.slice aR refs.length cR] 44∧Box w'' (w.heap.size+1) [.bool false,.int .i64 0,.slice none 0 0,.slice none 0 0] 44):=fun w'' hh=>⟨b0.below hh b0.lt,b1.below hh b1.lt⟩
 have hh:=HC.out W (Below.refl _ _)
 have hne:¬ (w.heap.size=w.heap.size+1):=by omega
 clear b0 b1
 go_enter Tryz.func84,Tryz.ntmps84
 go_wp2_with fail
 rw [hW.out]
 clear hW
 go_region_held3 (fun w''=>w''.cell? ⟨w.heap.size,0,none⟩=some (.bool h)∧w''.cell? ⟨w.heap.size,1,none⟩=some (.int .i64 k)∧w''.cell? ⟨w.heap.size,2,none⟩=some (.slice aI ints.length cI)∧w''.cell? ⟨w.heap.size,3,none⟩=some (.slice aR refs.length cR))
  (first | exact HC.out _ hB1 | exact HC.out _ (Below.refl _ _).drew | exact ⟨(((((HB.out _ (by first | exact hB1 | fail)).1.other hne).other hne).other hne).other hne).cell 0 _ rfl,(((((HB.out _ (by first | exact hB1 | fail)).1.other hne).other hne).other hne).other hne).cell 1 _ rfl,(((((HB.out _ (by first | exact hB1 | fail)).1.other hne).other hne).other hne).other hne).cell 2 _ rfl,(((((HB.out _ (by first | exact hB1 | fail)).1.other hne).other hne).other hne).other hne).cell 3 _ rfl⟩ | go_keep | fail)
  (first
  | (go_at_call 112;refine (l2Copy_any ⟨k,ints,refs⟩ aI cI aR cR _ hr'.drew hlI hlR).mono ?_;rintro e u1 ⟨a1,c1,a2,c2,rfl,ho1,hb1⟩;have hB1:Below W.heap.size W u1:=((Below.refl _ _).drew).trans hb1;obtain ⟨m0,m1,m2,m3,e0,e1,e2,e3⟩:=(HB.out _ hB1).2.four)
  | fail)
 obtain ⟨WF,hWF,bF,hwF,hsF⟩:=box4_fill (HB.out _ hB1).2 (.bool h) (.int .i64 k) (.slice a1 ints.length c1) (.slice a2 refs.length c2)
 have hsu1:W.heap.size≤u1.heap.size:=hB1.size
 have hO:OwnO u1 W.heap.size u1.heap.size a1 c1 a2 c2 ⟨k,ints,refs⟩:=ho1
 have hOF:OwnO WF W.heap.size u1.heap.size a1 c1 a2 c2 ⟨k,ints,refs⟩:=hO.within hwF (.inr (by omega))
 have HBF:Hid (Below w.heap.size w WF):=(hbW.trans (hB1.mono (by omega))).trans (hwF.below (by omega) (by omega))
 rw [hWF.out]
 clear hwF ho1 hO
 go_wp2
 obtain ⟨q0,q1,q2,q3,_⟩:=bF.four
 exact bodyPost_ret (v:=.agg #[.bool h,.int .i64 k,.slice a1 ints.length c1,.slice a2 refs.length c2]) (by simp [results,Tryz.results84,go_sem,q0,q1,q2,q3]) rfl ⟨⟨⟨h,⟨k,ints,refs⟩⟩,a1,c1,a2,c2⟩,rfl,rfl,hOF.widen (by omega) (by omega) (Nat.le_refl _),HBF.out⟩
theorem l3Copy_own (p:PageA) (h4:p.ss.length=4) (w:World) (hr:ReadsS w p.ss) (hl:Fit p.ss):
  Calls Tryz.prog 49 #[.agg p.cells.toArray] w fun e w'=>∃ ts:List SlotA,e=.returned (.agg (PageA.cells ⟨p.lsn,ts⟩).toArray)∧Hid (ts.map (·.v)=p.ss.map (·.v))∧OwnS w' w.heap.size w'.heap.size ts∧Below w.heap.size w w':=by
 obtain ⟨n,ss⟩:=p
 simp only [PageA.cells] at*
 obtain ⟨W,hW,b0,b1,b2,hbW,hsW⟩:=boxes3 w (.int .i64 n::cellsS ss) [.int .i64 0,.bool false,.int .i64 0,.slice none 0 0,.slice none 0 0,.bool false,.int .i64 0,.slice none 0 0,.slice none 0 0,.bool false,.int .i64 0,.slice none 0 0,.slice none 0 0,.bool false,.int .i64 0,.slice none 0 0,.slice none 0 0] [.int .i64 n,.bool false,.int .i64 0,.slice none 0 0,.slice none 0 0,.bool false,.int .i64 0,.slice none 0 0,.slice none 0 0,.bool false,.int .i64 0,.slice none 0 0,.slice none 0 0,.bool false,.int .i64 0,.slice none 0 0,.slice none 0 0] 47 47 47
 have b1':Box W (w.heap.size+1) ([]++((.int .i64 0::cellsS zero4)++[])) 47:=b1
 have b2':Box W (w.heap.size+1+1) (.int .i64 n::cellsS ([]++List.replicate (4-0) zeroS)) 47:=b2
 have hsW':w.heap.size+1+1<W.heap.size:=by omega
 have hc0:(((w.alloc (.cells (.int .i64 n::cellsS ss).toArray 47)).alloc (.cells #[.int .i64 0,.bool false,.int .i64 0,.slice none 0 0,.slice none 0 0,.bool false,.int .i64 0,.slice none 0 0,.slice none 0 0,.bool false,.int .i64 0,.slice none 0 0,.slice none 0 0,.bool false,.int .i64 0,.slice none 0 0,.slice none 0 0] 47))).cell? ⟨w.heap.size,0,none⟩=some (.int .i64 n):=((box_new w (.int .i64 n::cellsS ss) 47).alloc _).cell 0 _ rfl
 have H4:Hid (ss.length=4):=h4
 clear b1 b2 hsW h4
 go_enter Tryz.func49,Tryz.ntmps49
 go_wp2_with fail
 rw [hW.out]
 clear hW hc0
 go_loopw [4] (fun i wr=>∃ (k:Nat) (ts:List SlotA),i=.int .i64 k∧k≤4∧Hid (ts.length=k∧ts.map (·.v)=(ss.take k).map (·.v))∧OwnS wr W.heap.size wr.heap.size ts∧Box wr (w.heap.size+1+1) (.int .i64 n::cellsS (ts++List.replicate (4-k) zeroS)) 47∧Below (w.heap.size+1+1) W wr)
  (fun i _=>4-(intOf i).toNat)
 case atStart=>exact ⟨0,[],rfl,by omega,⟨rfl,rfl⟩,OwnS.nil _ _ _,b2',Below.refl _ _⟩
 case round=>
  obtain ⟨k,ts,rfl,hk,hts,hown,hbox,hbl⟩:=hrel
  clear b2'
  have b0r:=b0.below hbl (by omega)
  have b1r:=b1'.below hbl (by omega)
  have hsr:=hbl.size
  have hsz:=hbox.lt
  by_cases hlt:k<4
  ·have hkl:k<ss.length:=by rw [H4.out];exact hlt
   obtain ⟨c0,c1,c2,c3,_⟩:=b0r.pslot k hkl
   have hi0:(0:Int)≤(k:Int):=by omega
   have hi4:(k:Int)<4:=by omega
   have hrk:=(hr _ (getD_mem hkl)).below (hbW.trans (hbl.mono (by omega)))
   have hlk:=hl _ (getD_mem hkl)
   have HV:Hid ((ss.take (k+1)).map (·.v)=(ss.take k).map (·.v)++[(ss.getD k zeroS).v]):=by
    rw [Hid,List.take_add_one,List.map_append]
    simp [List.getD,hkl]
   generalize ss.getD k zeroS=s at*
   have C:=l3CopySlot_own s wr hrk hlk.1 hlk.2
   simp only [SlotA.cells] at C
   go_wp2_with fail
   refine C.mono ?_
   clear C hrk hlk c0 c1 c2 c3
   rintro e w1 ⟨t,rfl,hv,ho,hb1⟩
   have hs1:=hb1.size
   have hbx:=hbox.below hb1 hsz
   have hkt:k<(ts++List.replicate (4-k) zeroS).length:=by have:=hts.out.1;simp;omega
   obtain ⟨W2,hW2,b2,hw2,hs2⟩:=pslot_fill hbx k hkt t
   obtain ⟨x0,x1,x2,x3,hfz⟩:=hbx.pslot k hkt
   have f0:=hfz (1+k*4)
   have f1:=hfz (1+k*4+1)
   have f2:=hfz (1+k*4+2)
   have f3:=hfz (1+k*4+3)
   generalize (ts++List.replicate (4-k) zeroS).getD k zeroS=old at*
   have b2':Box W2 (w.heap.size+1+1) (.int .i64 n::cellsS ((ts++[t])++List.replicate (4-(k+1)) zeroS)) 47:=by
    rw [show 4-k=(4-(k+1))+1 by omega] at b2
    have e:=set_snoc ts (4-(k+1)) t
    rw [hts.out.1] at e
    rw [e] at b2
    exact b2
   have hO1:OwnS w1 W.heap.size w1.heap.size (ts++[t]):=(hown.below hb1).snoc ho hsr hs1 (Nat.le_refl _)
   have hO2:OwnS W2 W.heap.size W2.heap.size (ts++[t]):=(hO1.within hw2 (.inr (by omega))).widen (Nat.le_refl _) (by omega) (Nat.le_refl _)
   have hB2:Below (w.heap.size+1+1) W W2:=(hbl.trans (hb1.mono (by omega))).trans (hw2.below (Nat.le_refl _) (by omega))
   have HT:Hid ((ts++[t]).length=k+1∧(ts++[t]).map (·.v)=(ss.take (k+1)).map (·.v)):=by
    refine ⟨by have:=hts.out.1;simp;omega,?_⟩
    rw [HV.out,List.map_append,hts.out.2,← hv.out]
    rfl
   clear hfz hs2 hw2 b2 hO1 hown hbox hbx hts HV hkt hb1 ho
   go_wp2_with fail
   rw [hW2.out]
   go_roundw
   case rel=>exact ⟨k+1,ts++[t],by go_num,by omega,HT,hO2,b2',hB2⟩
   case measure=>simp [intOf];omega
  ·obtain rfl:k=4:=by omega
   have hkk:¬ ((4:Nat):Int)<4:=by omega
   have hrp:ts++List.replicate (4-4) zeroS=ts:=by simp
   rw [hrp] at hbox
   have htl:ts.length=4:=hts.out.1
   have HMV:Hid (ts.map (·.v)=ss.map (·.v)):=by rw [Hid,hts.out.2,List.take_of_length_le (by rw [H4.out];omega)]
   obtain ⟨WF,hWF,bF,hwF,hsF⟩:=range_fill [] (.int .i64 0::cellsS zero4) (.int .i64 n::cellsS ts) [] b1r (by simp only [List.length_cons,cellsS_len,htl];rfl)
   have HWF:Hid (wr.setCells (w.heap.size+1) 0 (.int .i64 n::cellsS ts)=WF):=hWF.out
   have HR2:Hid (wr.rangeAt (w.heap.size+1+1) 0 (.int .i64 n::cellsS ts)):=Box.range [] (.int .i64 n::cellsS ts) [] (by simpa using hbox)
   have HTF:Hid (wr.there (w.heap.size+1) 0 (.int .i64 n::cellsS ts).toArray.size):=b1r.there 0 _ (by simp only [List.size_toArray,cellsS_len,htl,List.length_append,List.length_cons,List.length_nil];decide)
   have hrF:WF.rangeAt (w.heap.size+1) 0 (.int .i64 n::cellsS ts):=Box.range [] (.int .i64 n::cellsS ts) [] (by simpa using bF)
   have HI:Hid ((Tryz.prog.info? 47).map (·.size)=some (.int .i64 n::cellsS ts).length):=by rw [Hid,List.length_cons,cellsS_len,htl];kernel_rfl
   have HO:Hid (_):=all_oneCell_toArray (oneP ⟨n,ts⟩)
   have HLF:Hid (_):=run_loadVar_mid (P:=Tryz.prog) _ (w.heap.size+1) 0 47 (.int .i64 n::cellsS ts) _ hrF Tryz.underlying47 rfl HI.out
   have HOF:Hid (OwnS WF w.heap.size WF.heap.size ts):=(hown.within hwF (.inr (by omega))).widen (by omega) (by omega) (Nat.le_refl _)
   have HBF:Hid (Below w.heap.size w WF):=(hbW.trans (hbl.mono (by omega))).trans (hwF.below (by omega) (by omega))
   simp only [PageA.cells] at HO
   clear hWF bF hwF hsF hrF hrp htl hbox hown hts
   go_wp2_with (first | (guard_target=wpList _ _ _ (Oper.mk (some 20) _ _ _ _ _::_) _ _;refine wpList_load_mid rfl 47 (.tmp 3) rfl (w.heap.size+1+1) 0 rfl (.int .i64 n::cellsS ts) _ HR2.out Tryz.underlying47 rfl HI.out ?_) | (guard_target=wpList _ _ _ (Oper.mk none (Op.store _ (Operand.tmp 2) _) _ _ _ _::_) _ _;refine wpList_store_mid rfl 47 (.tmp 2) (.tmp 20) rfl (w.heap.size+1) 0 (.int .i64 n::cellsS ts).toArray rfl rfl HTF.out (by rw [List.size_toArray];exact HI.out) HO.out ?_) | fail)
   rw [HWF.out]
   exact bodyPost_ret (v:=.agg (.int .i64 n::cellsS ts).toArray) (results_one Tryz.results49 rfl HLF.out) rfl ⟨ts,rfl,HMV,HOF.out,HBF.out⟩
theorem copyInts_any (a:Option Addr) (cap:Nat) (zs:List Int) (w:World) (hr:ReadsI w a zs) (hl:zs.length≤1099511627776):
  Calls Tryz.prog 118 #[.slice a zs.length cap] w fun e w'=>∃ a' c',e=.returned (.slice a' zs.length c')∧OwnI w' w.heap.size w'.heap.size a' c' zs∧Below w.heap.size w w':=by
 obtain ⟨i0,hi,hz0,hz1,hz2⟩:=info_parts Tryz.infoInt
 rcases hr.cases with rfl | ⟨b,off,rfl,hpos,hcell⟩
 ·go_enter Tryz.func118,Tryz.ntmps118
  go_wp2
  go_ret
  exact ⟨none,0,rfl,ownI_nil _ _ _ (Nat.le_refl _),Below.refl _ _⟩
 ·have hnz:((zs.length:Int) == 0)=false:=by simp;intro e;simp [e] at hpos
  have hsz:(Tryz.prog.info? 3).map (·.size)=some 1:=by kernel_rfl
  go_enter Tryz.func118,Tryz.ntmps118
  go_wp2_with (at_make;refine wpList_make_full _ rfl _ _ 22 rfl w.heap.size 3 i0 (.int .i64 0) 1 Tryz.underlying22 hi hz0 hz1 _ _ _ _ zs.length rfl rfl rfl rfl (by rw [hz2];omega) (by simp [maxLen];omega) (Nat.le_refl _) ?_)
  intro w0 hown0 hgrow0
  have hb0:Below w.heap.size w w0:=(Below.refl _ _).grown hgrow0 (Nat.le_refl _) (fun k h=>by cases h)
  obtain ⟨hlen,hcase⟩:=hown0
  rcases hcase with ⟨hv,_⟩ | ⟨g,cap',cur,hv,hg,hgg,hn,hm,hcs,htk⟩
  ·cases hv
  simp only [Value.slice.injEq,Option.some.injEq,Addr.mk.injEq,and_true,true_and] at hv
  obtain ⟨rfl,rfl⟩:=hv
  have hcl:cur.toList.length=zs.length:=by rw [Array.length_toList,hcs];omega
  have HC:Hid (0<(zs.map (Value.int .i64)).length→some (⟨w.heap.size,0,none⟩:Addr)=some ⟨w.heap.size,0,none⟩∧∃ ad:Addr,some (⟨b,off,none⟩:Addr)=some ad∧∀ j v,(zs.map (Value.int .i64))[j]? =some v→w0.cell? (ad.add j)=some v):=by
   intro _
   refine ⟨rfl,_,rfl,fun j v hv=>?_⟩
   rw [List.getElem?_map] at hv
   cases hzj:zs[j]? with
   | none=>rw [hzj] at hv;cases hv
   | some z=>
    rw [hzj] at hv
    simp only [Option.map_some,Option.some.injEq] at hv
    have hj:j<zs.length:=(List.getElem?_eq_some_iff.1 hzj).1
    have hc:=hcell j hj
    have hadd:(⟨b,off,none⟩:Addr).add j=⟨b,off+j,none⟩:=by unfold Addr.add;split<;>simp_all
    rw [hadd,hb0.cell (block_lt hc),hc,← hv]
    simp [List.getD,hzj]
  have HG:Hid (w0.heap[w.heap.size]? =some (.cells cur.toList.toArray 3 (0,0))):=by rw [Hid,hgg]
  have HN:Hid ((zs.map (Value.int .i64)).length=Nat.min zs.length zs.length):=by rw [Hid,List.length_map];exact (Nat.min_self _).symm
  have HFt:Hid (0+(zs.map (Value.int .i64)).length≤cur.toList.length):=by rw [Hid,List.length_map,hcl];omega
  have H1:Hid (∀ v∈zs.map (Value.int .i64),v.oneCell'=true):=fun v hv=>by obtain ⟨z,_,rfl⟩:=List.mem_map.1 hv;rfl
  have HSP:Hid (splice cur.toList 0 (zs.map (Value.int .i64))=zs.map (Value.int .i64)):=by
   unfold Hid splice
   rw [List.take_zero,List.nil_append,Nat.zero_add,List.drop_eq_nil_of_le (by rw [hcl,List.length_map];exact Nat.le_refl _),List.append_nil]
  clear hlen htk hcs hgg hgrow0 hcell hn hm
  have key:∀ {ops:Array Oper} {rest:List Oper} {o:Oper} {act:Act} {Q:Exit→Act→World→Prop},o.guard=none→o.op=.call { callee:=.builtin .copy,args:=#[.tmp 10,.tmp 11],argTypes:=#[22,22] }→act.eval (.tmp 10)=.slice (some ⟨w.heap.size,0,none⟩) zs.length zs.length→act.eval (.tmp 11)=.slice (some ⟨b,off,none⟩) zs.length cap→(∀ w1,OwnI w1 w.heap.size w1.heap.size (some ⟨w.heap.size,0,none⟩) zs.length zs→Below w.heap.size w w1→wpList Tryz.prog ops Q rest (act.put o.dst (goInt (zs.map (Value.int .i64)).length)) w1)→wpList Tryz.prog ops Q (o::rest) act w0:=by
   intro ops rest o act Q h1 h2 h3 h4 h5
   refine wpList_copy_splice h1 (.tmp 10) (.tmp 11) 22 22 h2 3 Tryz.underlying22 hsz _ _ zs.length zs.length zs.length cap h3 h4 w.heap.size 0 cur.toList 3 HG.out (zs.map (Value.int .i64)) HN.out HC.out HFt.out H1.out w.heap.size w hb0 (Nat.le_refl _) ?_
   intro w1 hrow hb1
   refine h5 w1 ?_ hb1
   have h:=hrow.out
   rw [HSP.out] at h
   refine ⟨⟨by simp,.inr ⟨w.heap.size,zs.length,_,rfl,Nat.le_refl _,h,Nat.le_refl _,by simp [maxLen];omega,by simp,by simp;exact List.take_of_length_le (by simp)⟩⟩,Nat.le_refl _,fun k hk=>?_⟩
   cases hk
   exact (Array.getElem?_eq_some_iff.1 h).1
  have KEY:Hid _:=@key
  clear key HG HN HFt H1 HSP HC hcl
  go_wp2_with (guard_target=wpList _ _ _ (Oper.mk (some 12) _ _ _ _ _::_) _ _;refine KEY.out rfl rfl rfl rfl ?_;intro w1 HO hb1)
  go_ret
  exact ⟨_,_,rfl,HO,hb1⟩
end Go.Proofs.YtcoeamamaifoeaaGreatDoor
namespace Go.Proofs.YtcoeamamaifoeaaGreatDoor
open Go.RowKit
theorem copySlot_own (s:SlotA) (w:World) (hr:s.reads w) (hlI:s.v.o.ints.length≤1099511627776) (hlR:s.v.o.refs.length≤1099511627776):
  Calls Tryz.prog 93 #[.agg s.cells.toArray] w fun e w'=>∃ t:SlotA,e=.returned (.agg t.cells.toArray)∧Hid (t.v=s.v)∧t.own w' w.heap.size w'.heap.size∧Below w.heap.size w w':=by
 obtain ⟨⟨h,⟨k,ints,refs⟩⟩,aI,cI,aR,cR⟩:=s
 simp only [SlotA.cells,SlotA.reads,SlotA.own] at*
 obtain ⟨hI,hR,_,_⟩:=hr
 simp only at hI hR
 obtain ⟨W,hW,b0,b1,hbW,hsW⟩:=boxes2 w [.bool h,.int .i64 k,.slice aI ints.length cI,.slice aR refs.length cR] [.bool false,.int .i64 0,.slice none 0 0,.slice none 0 0] 44 44
 have hI':=hI.below hbW
 have hR':=hR.below hbW
 have hwW:w.heap.size+1<W.heap.size:=by omega
 clear hsW hI hR
 have HC:Hid (∀ w'',Below W.heap.size W w''→w''.cell? ⟨w.heap.size,0,none⟩=some (.bool h)∧w''.cell? ⟨w.heap.size,1,none⟩=some (.int .i64 k)∧w''.cell? ⟨w.heap.size,2,none⟩=some (.slice aI ints.length cI)∧w''.cell? ⟨w.heap.size,3,none⟩=some (.slice aR refs.length cR)):=by
  intro w'' hh
  have ba:=b0.below hh b0.lt
  exact ⟨ba.cell 0 _ rfl,ba.cell 1 _ rfl,ba.cell 2 _ rfl,ba.cell 3 _ rfl⟩
 have HB:Hid (∀ w'',Below W.heap.size W w''→Box w'' w.heap.size [.bool h,.int .i64 k,.slice aI ints.length cI,.slice aR refs.length cR] 44∧Box w'' (w.heap.size+1) [.bool false,.int .i64 0,.slice none 0 0,.slice none 0 0] 44):=fun w'' hh=>⟨b0.below hh b0.lt,b1.below hh b1.lt⟩
 have hh:=HC.out W (Below.refl _ _)
 have hne:¬ (w.heap.size=w.heap.size+1):=by omega
 clear b0 b1
 go_enter Tryz.func93,Tryz.ntmps93
 go_wp2_with fail
 rw [hW.out]
 clear hW
 go_region_held3 (fun w''=>w''.cell? ⟨w.heap.size,0,none⟩=some (.bool h)∧w''.cell? ⟨w.heap.size,1,none⟩=some (.int .i64 k)∧w''.cell? ⟨w.heap.size,2,none⟩=some (.slice aI ints.length cI)∧w''.cell? ⟨w.heap.size,3,none⟩=some (.slice aR refs.length cR))
  (first | exact HC.out _ hB2 | exact HC.out _ hB1 | exact HC.out _ (Below.refl _ _).drew | exact ⟨(((((HB.out _ (by first | exact hBL | fail)).1.other hne).other hne).other hne).other hne).cell 0 _ rfl,(((((HB.out _ (by first | exact hBL | fail)).1.other hne).other hne).other hne).other hne).cell 1 _ rfl,(((((HB.out _ (by first | exact hBL | fail)).1.other hne).other hne).other hne).other hne).cell 2 _ rfl,(((((HB.out _ (by first | exact hBL | fail)).1.other hne).other hne).other hne).other hne).cell 3 _ rfl⟩ | go_keep | fail)
  (first
  | (go_at_call_of 118 (Value.slice aI ints.length cI);refine (copyInts_any aI cI ints _ (hI'.below (by first | exact hB2 | exact (Below.refl _ _).drew | fail)) hlI).mono ?_;rintro e u1 ⟨a1,c1,rfl,ho1,hb1⟩;have hB1:Below W.heap.size W u1:=(by first | exact hB2.trans (hb1.mono hB2.size) | exact ((Below.refl _ _).drew).trans hb1 | fail);have hBL:=hB1;obtain ⟨m0,m1,m2,m3,e0,e1,e2,e3⟩:=(HB.out _ hB1).2.four)
  | (go_at_call_of 118 (Value.slice aR refs.length cR);refine (copyInts_any aR cR refs _ (hR'.below (by first | exact hB1 | exact (Below.refl _ _).drew | fail)) hlR).mono ?_;rintro e u2 ⟨a2,c2,rfl,ho2,hb2⟩;have hB2:Below W.heap.size W u2:=(by first | exact hB1.trans (hb2.mono hB1.size) | exact ((Below.refl _ _).drew).trans hb2 | fail);have hBL:=hB2;obtain ⟨n0,n1,n2,n3,f0,f1,f2,f3⟩:=(HB.out _ hB2).2.four)
  | fail)
 obtain ⟨WF,hWF,bF,hwF,hsF⟩:=box4_fill (HB.out _ hB2).2 (.bool h) (.int .i64 k) (.slice a1 ints.length c1) (.slice a2 refs.length c2)
 have ho1':OwnI u1 W.heap.size u1.heap.size a1 c1 ints:=ho1
 have hsu1:W.heap.size≤u1.heap.size:=hB1.size
 have hsu2:=hb2.size
 have hO:OwnO u2 W.heap.size u2.heap.size a1 c1 a2 c2 ⟨k,ints,refs⟩:=⟨(ho1'.below hb2).widen (Nat.le_refl _) hsu2 (Nat.le_refl _),ho2.widen hsu1 (Nat.le_refl _) (Nat.le_refl _),fun j hj hj'=>by have h1:=(ho1'.lt j hj).2;have h2:=(ho2.lt j hj').1;omega⟩
 have hOF:OwnO WF W.heap.size u2.heap.size a1 c1 a2 c2 ⟨k,ints,refs⟩:=hO.within hwF (.inr (by omega))
 have HBF:Hid (Below w.heap.size w WF):=(hbW.trans (hB2.mono (by omega))).trans (hwF.below (by omega) (by omega))
 rw [hWF.out]
 clear hwF ho1 ho2 ho1' hO
 go_wp2
 obtain ⟨q0,q1,q2,q3,_⟩:=bF.four
 exact bodyPost_ret (v:=.agg #[.bool h,.int .i64 k,.slice a1 ints.length c1,.slice a2 refs.length c2]) (by simp [results,Tryz.results93,go_sem,q0,q1,q2,q3]) rfl ⟨⟨⟨h,⟨k,ints,refs⟩⟩,a1,c1,a2,c2⟩,rfl,rfl,hOF.widen (by omega) (by omega) (Nat.le_refl _),HBF.out⟩
end Go.Proofs.YtcoeamamaifoeaaGreatDoor