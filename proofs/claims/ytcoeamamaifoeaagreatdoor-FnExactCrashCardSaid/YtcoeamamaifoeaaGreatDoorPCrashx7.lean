/- Several texts in one, in their order. -/
import Derived.Deep.RegionHeld
import Derived.Test.YtcoeamamaifoeaaGreatDoorPCrashx3
import Derived.Test.YtcoeamamaifoeaaGreatDoorPCrashx4
import Derived.Test.YtcoeamamaifoeaaGreatDoorPCrashx5
import Derived.MapKept
import Derived.Maps.Own
import Derived.Deep.Cut
import Derived.Test.YtcoeamamaifoeaaGreatDoorPCrashx6
import Derived.Test.YtcoeamamaifoeaaGreatDoorPCrashx1
set_option maxHeartbeats 8000000
set_option maxRecDepth 100000
namespace Go.Proofs.YtcoeamamaifoeaaGreatDoor
def wpAnyL (P:Program) (md:Region.Mode) (ops:Array Oper) (Q:Exit→Act→World→Prop) (S:World→Prop) (ks:Nat→Bool):Nat→Array Bool→Act→World→Prop
 | 0,listed,a,w=>Region.ready md ops listed=[]∧Q .normal a w
 | fuel+1,listed,a,w=>
  (Region.ready md ops listed=[]→Q .normal a w)∧
  ∀ i∈Region.ready md ops listed,wpOp P ops Q i (fun a' w'=>(ks i=false→S w')∧wpAnyL P md ops Q S ks fuel (listed.setIfInBounds i true) a' w') a w
def AllReadyL (P:Program) (md:Region.Mode) (ops:Array Oper) (Q:Exit→Act→World→Prop) (S:World→Prop) (ks:Nat→Bool) (fuel:Nat) (listed:Array Bool) (a:Act) (w:World) (rs:List Nat):Prop:=
 ∀ i∈rs,wpOp P ops Q i (fun a' w'=>(ks i=false→S w')∧wpAnyL P md ops Q S ks fuel (listed.setIfInBounds i true) a' w') a w
theorem AllReadyL.nil {P:Program} {ops:Array Oper} {Q:Exit→Act→World→Prop} {md:Region.Mode} {S:World→Prop} {ks:Nat→Bool} {fuel:Nat} {listed:Array Bool} {a:Act} {w:World}:AllReadyL P md ops Q S ks fuel listed a w []:=fun _ h=>by cases h
theorem AllReadyL.cons {P:Program} {ops:Array Oper} {Q:Exit→Act→World→Prop} {md:Region.Mode} {S:World→Prop} {ks:Nat→Bool} {fuel:Nat} {listed:Array Bool} {a:Act} {w:World} {i:Nat} {o:Oper} {rs:List Nat} (ho:ops[i]? =some o)
  (h:∀ K':Act→World→Prop,Shut (∀ a w,(ks i=false→S w)→((ks i=false→S w)→wpAnyL P md ops Q S ks fuel (listed.setIfInBounds i true) a w)→K' a w)→if Region.wanted o (yielded ops a.tmps)=true then Oper.wp P o a w K' Q else K' (a.put o.dst undef) w)
  (hs:AllReadyL P md ops Q S ks fuel listed a w rs):AllReadyL P md ops Q S ks fuel listed a w (i::rs):=fun j hj=>by
 rcases List.mem_cons.1 hj with rfl | hj
 ·exact wpOp_step ho (fun K' hK=>h K' (fun a w hS hW=>hK a w ⟨hS,hW hS⟩))
 ·exact hs j hj
end Go.Proofs.YtcoeamamaifoeaaGreatDoor
namespace Go.Proofs.YtcoeamamaifoeaaGreatDoor
open Go.RowKit
def markL1 (k0:Int) (i:Nat):LiveV:=⟨k0+3*i,k0+3*i+1,((k0+3*i+1+1) % 3 == 0)⟩
def marksL (k0:Int) (n:Nat):List LiveV:=(List.range n).map fun i:Nat=>markL1 k0 i
theorem marksL_len (k0:Int) (n:Nat):(marksL k0 n).length=n:=by simp [marksL]
theorem marksL_at (k0:Int) (n i:Nat) (h:i<n):(marksL k0 n).getD i zeroL=markL1 k0 i:=by simp [marksL,List.getD,h]
theorem marksL_succ (k0:Int) (n:Nat):marksL k0 (n+1)=marksL k0 n++[markL1 k0 n]:=by simp [marksL,List.range_succ]
def markedL (k0:Int) (xs:List LiveV) (k:Nat):List LiveV:=marksL k0 k++xs.drop k
theorem markedL_len (k0:Int) (xs:List LiveV) (k:Nat) (h:k≤xs.length):(markedL k0 xs k).length=xs.length:=by simp [markedL,marksL_len];omega
theorem markedL_set (k0:Int) (xs:List LiveV) (k:Nat) (h:k<xs.length):(markedL k0 xs k).set k (markL1 k0 k)=markedL k0 xs (k+1):=by
 unfold markedL
 rw [List.set_append,if_neg (by rw [marksL_len];omega),marksL_len,Nat.sub_self,marksL_succ,List.drop_eq_getElem_cons h,List.set_cons_zero]
 simp
theorem markedL_all (k0:Int) (xs:List LiveV):markedL k0 xs xs.length=marksL k0 xs.length:=by simp [markedL]
theorem markLiveS_any (base:Nat) (a:Option Addr) (cap:Nat) (k0:Int) (xs:List LiveV) (w:World)
  (hown:w.ownsRow base 109 3 (.slice a xs.length cap) xs.length (cellsL xs)) (h0:0≤k0) (hl:k0+3*xs.length≤4611686018427387904):
  Calls Tryz.prog 37 #[.slice a xs.length cap,.int .i64 k0] w fun e w'=>e=.returned (.int .i64 (k0+3*xs.length))∧
   w'.ownsRow base 109 3 (.slice a xs.length cap) xs.length (cellsL (marksL k0 xs.length))∧w.grownBy w' (Value.slice a xs.length cap).ownBlock:=by
 have hlen:=hown.1
 rcases hown.2 with ⟨hv,h00⟩ | ⟨g,cap',cur,hv,hg,hgg,hr⟩
 ·simp only [Value.slice.injEq] at hv
  obtain ⟨rfl,h00',rfl⟩:=hv
  obtain rfl:=List.length_eq_zero_iff.1 h00
  go_enter Tryz.func37,Tryz.ntmps37
  go_wp2
  refine wp_loop_rounds 1 ?_
  rw [rounds_succ]
  go_wp2
  go_ret
  exact ⟨by simp,hown,World.grownBy.refl _ _⟩
 ·simp only [Value.slice.injEq] at hv
  obtain ⟨rfl,_,rfl⟩:=hv
  clear hgg hr hlen
  have hM:w.ownsRow base 109 3 (.slice (some ⟨g,0,none⟩) xs.length cap) xs.length (cellsL (markedL k0 xs 0)):=by simpa [markedL,marksL] using hown
  clear hown
  go_enter Tryz.func37,Tryz.ntmps37
  go_wp2
  go_loopw [1,5] (fun kk i wr=>∃ k:Nat,k≤xs.length∧i=.int .i64 k∧kk=.int .i64 (k0+3*k)∧wr.ownsRow base 109 3 (.slice (some ⟨g,0,none⟩) xs.length cap) xs.length (cellsL (markedL k0 xs k))∧w.grownBy wr (some g))
   (fun _ i _=>xs.length-(intOf i).toNat)
  case atStart=>exact ⟨0,Nat.zero_le _,rfl,by simp,hM,World.grownBy.refl _ _⟩
  case round=>
   obtain ⟨k,hk,rfl,rfl,hown,hgr⟩:=hrel
   clear hM
   by_cases hlt:k<xs.length
   ·have hp:=markedL_len k0 xs k hk
    obtain ⟨x0,x1,x2,hfz⟩:=row_live hown hp k hlt
    have f0:=hfz (k*3)
    have f1:=hfz (k*3+1)
    have f2:=hfz (k*3+2)
    obtain ⟨W2,hW2,ho2,hg2⟩:=row_store hown hp k hlt (markL1 k0 k)
    rw [markedL_set k0 xs k hlt] at ho2
    have HH:Hid (_∧_):=⟨ho2,grownBy_trans hgr hg2⟩
    clear ho2 hg2 hfz hown hgr
    generalize (markedL k0 xs k).getD k zeroL=old at*
    simp only [markL1] at hW2
    go_wp2
    rw [hW2.out]
    go_roundw
    case rel=>exact ⟨k+1,by omega,by go_num,by go_num,HH.out.1,HH.out.2⟩
    case measure=>simp [intOf];omega
   ·have HE:Hid (wr.ownsRow base 109 3 (.slice (some ⟨g,0,none⟩) xs.length cap) xs.length (cellsL (marksL k0 xs.length))∧k=xs.length):=by
     have e:k=xs.length:=by omega
     rw [e,markedL_all] at hown
     exact ⟨hown,e⟩
    go_wp2
    go_ret
    exact ⟨ret_int (by have:=HE.out.2;omega),HE.out.1,hgr⟩
theorem markLiveS_own (lo hi:Nat) (a:Option Addr) (cap:Nat) (k0:Int) (xs:List LiveV) (w:World) (ho:OwnL w lo hi a cap xs) (h0:0≤k0) (hl:k0+3*xs.length≤4611686018427387904):
  Calls Tryz.prog 37 #[.slice a xs.length cap,.int .i64 k0] w fun e w'=>e=.returned (.int .i64 (k0+3*xs.length))∧
   OwnL w' lo hi a cap (marksL k0 xs.length)∧Touch (Value.slice a xs.length cap).ownBlock.toList w w':=by
 refine (markLiveS_any lo a cap k0 xs w ho.1 h0 hl).mono ?_
 rintro e w' ⟨rfl,h1,h2⟩
 refine ⟨rfl,⟨by rw [marksL_len];exact h1,Nat.le_trans ho.2.1 h2.size,by rw [marksL_len];exact ho.2.2⟩,Touch.of_grown h2 (fun j hj=>Option.mem_toList.2 hj)⟩
theorem heldLiveS_any (a:Option Addr) (cap:Nat) (k0:Int) (n:Nat) (w:World) (hr:ReadsL w a (marksL k0 n)) (h0:0≤k0) (hl:k0+3*n≤4611686018427387904):
  Calls Tryz.prog 42 #[.slice a n cap,.int .i64 k0] w fun e w'=>e=.returned (.int .i64 (k0+3*n))∧w'=w:=by
 rcases hr.cases with h | ⟨b,off,rfl,hpos,hcell⟩
 ·have h':=congrArg List.length h
  rw [marksL_len] at h'
  simp at h'
  subst h'
  go_enter Tryz.func42,Tryz.ntmps42
  go_wp2
  refine wp_loop_rounds 1 ?_
  rw [rounds_succ]
  go_wp2
  go_ret
  exact ⟨by simp,rfl⟩
 ·rw [marksL_len] at hpos hcell
  go_enter Tryz.func42,Tryz.ntmps42
  go_wp2
  go_loop [1,5] (fun kk i=>∃ k:Nat,k≤n∧i=.int .i64 k∧kk=.int .i64 (k0+3*k)) (fun _ i=>n-(intOf i).toNat)
  case atStart=>exact ⟨0,Nat.zero_le _,rfl,by simp⟩
  case round=>
   obtain ⟨k,hk,rfl,rfl⟩:=hrel
   by_cases hlt:k<n
   ·obtain ⟨c0,c1,c2⟩:=hcell k hlt
    rw [marksL_at k0 n k hlt] at c0 c1 c2
    simp only [markL1] at c0 c1 c2
    clear hcell
    go_wp2
    go_round
    case rel=>exact ⟨k+1,by omega,by go_num,by go_num⟩
    case measure=>simp [intOf];omega
   ·have HE:Hid (k=n):=by show k=n;omega
    go_wp2
    go_ret
    exact ⟨ret_int (by have:=HE.out;omega),rfl⟩
def RecA.mark (r:RecA) (k:Int):RecA:={ r with bf:=r.bf.mark k,af:=r.af.mark (k+r.bf.count),txs:=marksL (k+r.bf.count+r.af.count) r.txs.length }
def RecA.count (r:RecA):Nat:=r.bf.count+r.af.count+3*r.txs.length
end Go.Proofs.YtcoeamamaifoeaaGreatDoor
namespace Go.Proofs.YtcoeamamaifoeaaGreatDoor
open Go.RowKit Go.Maps Go.MapKept
structure ClaimV where
 key:Int
 tx:Int
 place:Int
def ClaimV.ent (m:ClaimV):Value × Value:=(.int .i64 m.key,.agg #[.int .i64 m.tx,.int .i64 m.place])
def MapAt (w:World) (B:Nat) (ms:List ClaimV):Prop:=∃ es clock,w.heap[B]? =some (.map es clock)∧es.toList.map (fun e=>(e.key,e.val))=ms.map ClaimV.ent
def findC (k:Int):List ClaimV→Nat→Option (Nat × Value)
 | [],_=>none
 | m::r,i=>if k=m.key then some (i,m.ent.2) else findC k r (i+1)
def putC (c:ClaimV):List ClaimV→List ClaimV
 | []=>[c]
 | m::r=>if c.key=m.key then c::r else m::putC c r
def getC (k:Int):List ClaimV→Option ClaimV
 | []=>none
 | m::r=>if k=m.key then some m else getC k r
theorem MapAt.lt {w:World} {B:Nat} {ms:List ClaimV} (h:MapAt w B ms):B<w.heap.size:=by
 obtain ⟨es,clock,hb,_⟩:=h
 rcases Nat.lt_or_ge B w.heap.size with h | h
 ·exact h
 ·rw [Array.getElem?_eq_none h] at hb;cases hb
theorem MapAt.below {w w':World} {B:Nat} {ms:List ClaimV} (h:MapAt w B ms) (hb:Below w.heap.size w w'):MapAt w' B ms:=by
 have hl:=h.lt
 obtain ⟨es,clock,h1,h2⟩:=h
 exact ⟨es,clock,by rw [hb.block B hl];exact h1,h2⟩
theorem MapAt.touch {w w':World} {B:Nat} {ms:List ClaimV} {bl:List Nat} (h:MapAt w B ms) (ht:Touch bl w w') (hn:B∉bl):MapAt w' B ms:=by
 have hl:=h.lt
 obtain ⟨es,clock,h1,h2⟩:=h
 exact ⟨es,clock,by rw [ht.block B hl hn];exact h1,h2⟩
theorem mapAt_made (w:World):MapAt (w.alloc (.map #[] 0)) w.heap.size []:=⟨#[],0,(heap_alloc w _).1,rfl⟩
theorem findNow_c (k:Int):∀ (ms:List ClaimV) (l:List MapEntry) (i:Nat),l.map (fun e=>(e.key,e.val))=ms.map ClaimV.ent→Instr.findNow (.int .i64) (.int .i64 k) l i=some (findC k ms i):=by
 intro ms
 induction ms with
 | nil=>intro l i h;cases l with
  | nil=>rfl
  | cons e r=>simp at h
 | cons m r ih=>
  intro l i h
  cases l with
  | nil=>simp at h
  | cons e q=>
   simp only [List.map_cons,List.cons.injEq,ClaimV.ent,Prod.mk.injEq] at h
   obtain ⟨⟨h1,h2⟩,h3⟩:=h
   have h4:=ih q (i+1) (by simpa [ClaimV.ent] using h3)
   rw [Instr.findNow,h1,findC]
   by_cases hk:k=m.key
   ·subst hk
    simp [Instr.sameNow,h2,ClaimV.ent]
   ·have hkb:(k == m.key)=false:=by simpa using hk
    simp [Instr.sameNow,hk,h4,hkb]
theorem findC_cases (k:Int):∀ (ms:List ClaimV) (i:Nat),(findC k ms i=none∧getC k ms=none∧∀ c:ClaimV,c.key=k→putC c ms=ms++[c])∨∃ (j:Nat) (m:ClaimV),ms[j]? =some m∧m.key=k∧findC k ms i=some (i+j,m.ent.2)∧getC k ms=some m∧∀ c:ClaimV,c.key=k→putC c ms=ms.set j c:=by
 intro ms
 induction ms with
 | nil=>intro i;exact .inl ⟨rfl,rfl,fun c hc=>rfl⟩
 | cons m r ih=>
  intro i
  by_cases hk:k=m.key
  ·refine .inr ⟨0,m,rfl,hk.symm,by rw [findC,if_pos hk];rfl,by rw [getC,if_pos hk],fun c hc=>?_⟩
   rw [putC,if_pos (by rw [hc,hk]),List.set_cons_zero]
  ·rcases ih (i+1) with ⟨h1,h2,h3⟩ | ⟨j,n,h1,h2,h3,h4,h5⟩
   ·exact .inl ⟨by rw [findC,if_neg hk];exact h1,by rw [getC,if_neg hk];exact h2,fun c hc=>by rw [putC,if_neg (by rw [hc];exact hk),h3 c hc];rfl⟩
   ·refine .inr ⟨j+1,n,by simpa using h1,h2,by rw [findC,if_neg hk,h3];congr 2;omega,by rw [getC,if_neg hk];exact h4,fun c hc=>?_⟩
    rw [putC,if_neg (by rw [hc];exact hk),h5 c hc,List.set_cons_succ]
theorem isKey_int (k:Int):IsKey (.int .i64) (.int .i64 k):=rfl
theorem kv_modify (l:List MapEntry) (j:Nat) (f:MapEntry→MapEntry) (v:Value × Value) (hf:∀ e,((f e).key,(f e).val)=v):(l.modify j f).map (fun e=>(e.key,e.val))=(l.map (fun e=>(e.key,e.val))).set j v:=by
 induction l generalizing j with
 | nil=>simp
 | cons e r ih=>
  cases j with
  | zero=>simp [hf]
  | succ j=>simp [ih j]
theorem run_update_c {w:World} {B:Nat} {ms:List ClaimV} (h:MapAt w B ms) (c:ClaimV):
  ∃ w',(Instr.mapUpdate 156 (.map (some B)) (.int .i64 c.key) (.agg #[.int .i64 c.tx,.int .i64 c.place])).run Tryz.prog w=.ok () w'∧MapAt w' B (putC c ms)∧w.grownBy w' (some B):=by
 obtain ⟨es,clock,hb,he⟩:=h
 have hck:=run_checkKey (P:=Tryz.prog) (w:=w) Tryz.underlying3 (isKey_int c.key) false 9999
 have hfd:=run_findKey (P:=Tryz.prog) (w:=w) (kt:=3) Tryz.underlying3 (findNow_c c.key ms es.toList 0 he)
 have hgo:(getObj B).run Tryz.prog w=.ok (.map es clock) w:=by simp [getObj,Sem.run,hb]
 have hgr:∀ o:Obj,w.grownBy { w with heap:=w.heap.setIfInBounds B o } (some B):=fun o=>⟨rfl,rfl,rfl,by simp,fun i _ hi=>(heap_set hb).2 i (fun e=>hi (by rw [e]))⟩
 rcases findC_cases c.key ms 0 with ⟨h1,_,h3⟩ | ⟨j,m,h1,h2,h3,_,h5⟩
 ·rw [h1] at hfd
  refine ⟨{ w with heap:=w.heap.setIfInBounds B (.map (es.push { key:=.int .i64 c.key,val:=.agg #[.int .i64 c.tx,.int .i64 c.place],born:=clock }) (clock+1)) },?_,⟨_,_,(heap_set hb).1,?_⟩,hgr _⟩
  ·simp only [Instr.mapUpdate,Sem.run_bind,run_underlying Tryz.underlying156,Result.andThen,hgo,hck,hfd,run_setObj_map _ hb]
  ·rw [h3 c rfl,Array.toList_push,List.map_append,List.map_append,he];rfl
 ·rw [h3] at hfd
  have hold:((es[0+j]?).map (·.key)).getD (.int .i64 c.key)=.int .i64 c.key:=by
   have e:=congrArg (fun l=>l[j]?) he
   simp only [List.getElem?_map,h1,Option.map_some,ClaimV.ent] at e
   rw [Nat.zero_add]
   rw [← Array.getElem?_toList]
   cases hq:es.toList[j]? with
   | none=>rfl
   | some x=>
    rw [hq] at e
    simp only [Option.map_some,Option.some.injEq,Prod.mk.injEq] at e
    simp [e.1,h2]
  have hst:(Instr.keyThatStays (.int .i64 c.key) (.int .i64 c.key)).run Tryz.prog w=.ok (.int .i64 c.key) w:=by
   have:Instr.sameBits 10000 (.int .i64 c.key) (.int .i64 c.key)=true:=by simp [Instr.sameBits]
   simp [Instr.keyThatStays,this]
  refine ⟨{ w with heap:=w.heap.setIfInBounds B (.map (es.modify (0+j) fun e=>{ e with key:=.int .i64 c.key,val:=.agg #[.int .i64 c.tx,.int .i64 c.place] }) clock) },?_,⟨_,_,(heap_set hb).1,?_⟩,hgr _⟩
  ·simp only [Instr.mapUpdate,Sem.run_bind,run_underlying Tryz.underlying156,Result.andThen,hgo,hck,hfd,hold,hst,run_setObj_map _ hb]
  ·rw [h5 c rfl,Array.toList_modify,kv_modify _ _ _ c.ent (fun e=>rfl),he,List.map_set,Nat.zero_add]
theorem run_len_c {w:World} {B:Nat} {ms:List ClaimV} (h:MapAt w B ms) (ty:TypeId):(Builtin.len_ #[156] ty #[.map (some B)]).run Tryz.prog w=.ok (.int .i64 (ms.length:Int)) w:=by
 obtain ⟨es,clock,hb,he⟩:=h
 have hgo:(getObj B).run Tryz.prog w=.ok (.map es clock) w:=by simp [getObj,Sem.run,hb]
 have hl:es.size=ms.length:=by have:=congrArg List.length he;simpa using this
 simp [Builtin.len_,run_underlying Tryz.underlying156,Result.andThen,hgo,hl]
 rfl
end Go.Proofs.YtcoeamamaifoeaaGreatDoor
namespace Go.Proofs.YtcoeamamaifoeaaGreatDoor
open Go.RowKit Go.Maps Go.MapKept
def claimsTo (hs:List HoldV):Nat→List ClaimV
 | 0=>[]
 | k+1=>putC ⟨(hs.getD k zeroH).oid,(hs.getD k zeroH).tx,(k:Int)⟩ (claimsTo hs k)
theorem putC_len (c:ClaimV) (ms:List ClaimV):(putC c ms).length=if (getC c.key ms).isSome then ms.length else ms.length+1:=by
 rcases findC_cases c.key ms 0 with ⟨_,h2,h3⟩ | ⟨j,m,_,_,_,h4,h5⟩
 ·rw [h2,h3 c rfl];simp
 ·rw [h4,h5 c rfl];simp
theorem getC_put (k:Int) (c:ClaimV) (ms:List ClaimV):getC k (putC c ms)=if k=c.key then some c else getC k ms:=by
 induction ms with
 | nil=>simp only [putC,getC]
 | cons m r ih=>
  rw [putC]
  by_cases h:c.key=m.key
  ·rw [if_pos h,getC,getC]
   by_cases h2:k=c.key
   ·rw [if_pos h2,if_pos h2]
   ·rw [if_neg h2,if_neg h2,if_neg (by rw [← h];exact h2)]
  ·rw [if_neg h,getC,getC,ih]
   by_cases h2:k=m.key
   ·rw [if_pos h2,if_pos h2,if_neg (by rw [h2];exact fun e=>h e.symm)]
   ·rw [if_neg h2,if_neg h2]
theorem claims_none (hs:List HoldV) (k:Int):∀ n,getC k (claimsTo hs n)=none ↔ ∀ j,j<n→(hs.getD j zeroH).oid≠k:=by
 intro n
 induction n with
 | zero=>exact ⟨fun _ j hj=>by omega,fun _=>rfl⟩
 | succ n ih=>
  rw [claimsTo,getC_put]
  by_cases h:k=(hs.getD n zeroH).oid
  ·rw [if_pos h]
   exact ⟨fun h=>(by cases h),fun h2=>absurd h.symm (h2 n (by omega))⟩
  ·rw [if_neg h,ih]
   refine ⟨fun h2 j hj=>?_,fun h2 j hj=>h2 j (by omega)⟩
   by_cases e:j=n
   ·rw [e];exact fun q=>h q.symm
   ·exact h2 j (by omega)
theorem claims_len_le (hs:List HoldV):∀ n,(claimsTo hs n).length≤n:=by
 intro n
 induction n with
 | zero=>exact Nat.le_refl _
 | succ n ih=>rw [claimsTo,putC_len];split<;>omega
theorem claims_len (hs:List HoldV):∀ n,(claimsTo hs n).length=n ↔ ∀ i,i<n→∀ j,j<i→(hs.getD j zeroH).oid≠(hs.getD i zeroH).oid:=by
 intro n
 induction n with
 | zero=>exact ⟨fun _ i hi=>by omega,fun _=>rfl⟩
 | succ n ih=>
  have hle:=claims_len_le hs n
  rw [claimsTo,putC_len]
  simp only
  cases hg:getC (hs.getD n zeroH).oid (claimsTo hs n) with
  | none=>
   have hd:=(claims_none hs _ n).1 hg
   simp only [Option.isSome_none,Bool.false_eq_true,if_false]
   constructor
   ·intro h i hi j hj
    by_cases e:i=n
    ·subst e;exact hd j hj
    ·exact ih.1 (by omega) i (by omega) j hj
   ·intro h
    rw [ih.2 (fun i hi j hj=>h i (by omega) j hj)]
  | some m=>
   simp only [Option.isSome_some,if_true]
   constructor
   ·intro h;omega
   ·intro h
    have:getC (hs.getD n zeroH).oid (claimsTo hs n)=none:=(claims_none hs _ n).2 (fun j hj=>h n (by omega) j hj)
    rw [hg] at this;cases this
theorem wpList_update_c {w:World} {ops:Array Oper} {rest:List Oper} {o:Oper} {a:Act} {Q:Exit→Act→World→Prop} (hg:o.guard=none) (m x v:Operand) (hop:o.op=Op.mapUpdate 156 m x v)
  (B:Nat) (ms:List ClaimV) (c:ClaimV) (hm:a.eval m=.map (some B)) (hx:a.eval x=.int .i64 c.key) (hv:a.eval v=.agg #[.int .i64 c.tx,.int .i64 c.place]) (h:MapAt w B ms)
  (hK:∀ w',MapAt w' B (putC c ms)→w.grownBy w' (some B)→wpList Tryz.prog ops Q rest (a.put o.dst undef) w'):wpList Tryz.prog ops Q (o::rest) a w:=by
 refine wpList_plain hg fun K' hK'=>?_
 obtain ⟨w',hrun,r1,r2⟩:=run_update_c h c
 unfold Oper.wp
 simp [execOp,hop,hm,hx,hv,hrun,Result.andThen]
 exact hK' _ _ (hK w' r1 r2)
theorem claimsOf_any (a:Option Addr) (cap:Nat) (hs:List HoldV) (w:World) (hr:ReadsH w a hs) (hl:hs.length≤1099511627776):
  Calls Tryz.prog 126 #[.slice a hs.length cap] w fun e w'=>e=.returned (.map (some w.heap.size))∧MapAt w' w.heap.size (claimsTo hs hs.length)∧Below w.heap.size w w':=by
 have hmm:=@run_makeMap Tryz.prog
 obtain ⟨W,hW⟩:∃ W,Hid (w.alloc (.map #[] 0)=W):=⟨_,rfl⟩
 have m0:MapAt W w.heap.size []:=by rw [← hW.out];exact mapAt_made w
 have hbW:Below w.heap.size w W:=by rw [← hW.out];exact (Below.refl _ _).alloc (Nat.le_refl _) _
 have HR:Hid (ReadsH w a hs):=hr
 clear hr
 go_enter Tryz.func126,Tryz.ntmps126
 go_wp2_with fail
 rw [hW.out]
 clear hW
 go_loopw [9] (fun i wr=>∃ k:Nat,k≤hs.length∧i=.int .i64 (k:Int)∧MapAt wr w.heap.size (claimsTo hs k)∧Below w.heap.size w wr) (fun i _=>hs.length-(intOf i).toNat)
 case atStart=>exact ⟨0,Nat.zero_le _,rfl,m0,hbW⟩
 case round=>
  obtain ⟨k,hk,rfl,hm,hnx⟩:=hrel
  clear m0 hbW
  by_cases hlt:k<hs.length
  ·obtain ⟨b,off,rfl,hc⟩:=(HR.out.below hnx) (by intro e;rw [e] at hlt;simp at hlt)
   obtain ⟨c0,c1⟩:=hc k hlt
   have HP:Hid (claimsTo hs (k+1)=putC ⟨(hs.getD k zeroH).oid,(hs.getD k zeroH).tx,(k:Int)⟩ (claimsTo hs k)):=rfl
   clear hc
   generalize hs.getD k zeroH=h at*
   obtain ⟨V,hV,bV,hbV,hsV⟩:=boxes1 wr [.int .i64 h.tx,.int .i64 h.oid] 113
   have hmV:=hm.below hbV
   have hnV:=hnx.trans (hbV.mono hnx.size)
   have hln:w.heap.size<V.heap.size:=hmV.lt
   have x0:=bV.cell 0 _ rfl
   have x1:=bV.cell 1 _ rfl
   clear hm hnx hbV hsV bV
   go_upto_region 5 with fail
   rw [hV.out]
   clear hV c0 c1
   go_wp2_with (first | (at_mapUpdate;refine wpList_update_c rfl _ _ _ rfl w.heap.size (claimsTo hs k) ⟨h.oid,h.tx,(k:Int)⟩ rfl rfl rfl hmV ?_;intro w5 hm5 hg5) | fail)
   have HM5:Hid (MapAt w5 w.heap.size (claimsTo hs (k+1))∧Below w.heap.size w w5):=by
    rw [HP.out]
    exact ⟨hm5,hnV.grown hg5 hnV.size (fun j hj=>by cases hj;exact Nat.le_refl _)⟩
   clear hm5 hg5 hmV hnV HP x0 x1
   go_wp2_with fail
   go_roundw
   case rel=>exact ⟨k+1,by omega,by go_num,HM5.out.1,HM5.out.2⟩
   case measure=>simp [intOf];omega
  ·have e:k=hs.length:=by omega
   have HE:Hid (MapAt wr w.heap.size (claimsTo hs hs.length)):=by rw [e] at hm;exact hm
   clear e
   go_wp2
   go_ret
   exact ⟨rfl,HE.out,hnx⟩
end Go.Proofs.YtcoeamamaifoeaaGreatDoor
namespace Go.Proofs.YtcoeamamaifoeaaGreatDoor
open Go.RowKit
theorem wpList_load_mid_if {ops:Array Oper} {rest:List Oper} {op:Oper} {a:Act} {w:World} {Q:Exit→Act→World→Prop} {P:Program} (hw:Region.wanted op (yielded ops a.tmps)=true) (ty:TypeId) (x:Operand) (ho:op.op=.load ty x)
  (b o:Nat) (hx:a.eval x=.pointer (some ⟨b,o,none⟩)) (cs:List Value) (d:TypeDesc) (hc:w.rangeAt b o cs)
  (hu:P.underlying ty=some d) (hd:d.isRow=true) (hi:(P.info? ty).map (·.size)=some cs.length)
  (h:wpList P ops Q rest (a.put op.dst (.agg cs.toArray)) w):wpList P ops Q (op::rest) a w:=
 wpList_step fun _ hK=>by
  simp only [hw,if_true]
  exact wp_load_mid ty x ho b o hx cs d hc hu hd hi (hK _ _ h)
theorem page_out {w:World} {C:Nat} {T:TypeId} {d:TypeDesc} (q:PageA) (hq:q.ss.length=4) (old:List Value) (ho:old.length=17) (bC:Box w C old T) (hu:Tryz.prog.underlying T=some d) (hd:d.isRow=true) (hi:(Tryz.prog.info? T).map (·.size)=some 17):
  ∃ WF,Hid (w.setCells C 0 q.cells=WF)∧Within C (C+1) w WF∧WF.heap.size=w.heap.size∧Hid (w.there C 0 q.cells.toArray.size)∧Hid ((loadVar T ⟨C,0,none⟩).run Tryz.prog WF=.ok (.agg q.cells.toArray) WF)∧Box WF C q.cells T:=by
 have hl:q.cells.length=17:=page_len q hq
 obtain ⟨WF,hWF,bF,hwF,hsF⟩:=range_fill [] old q.cells [] (by simpa using bC) (by rw [hl,ho])
 have bF':Box WF C q.cells T:=by simpa using bF
 refine ⟨WF,hWF,hwF,hsF,bC.there 0 _ (by rw [List.size_toArray,hl,ho];omega),?_,bF'⟩
 exact run_loadVar_mid (P:=Tryz.prog) WF C 0 T q.cells d (Box.range [] q.cells [] (by simpa using bF')) hu hd (by rw [hi,hl])
theorem run_append_lives {w:World} (ty:TypeId) (lo hi:Nat) (a:Option Addr) (c:Nat) (xs:List LiveV) (hown:OwnL w lo hi a c xs)
  (sa:Option Addr) (sc:Nat) (zs:List LiveV) (hr:ReadsL w sa zs) (hc:sa=none→sc=0) (hb:xs.length+zs.length≤1099511627776) (hlo:lo≤w.heap.size):
  ∃ a' c' ys w',(Builtin.append_ #[55,55] ty #[.slice a xs.length c,.slice sa zs.length sc]).run Tryz.prog w=.ok (.slice a' ys.length c') w'∧Hid (ys=xs++zs)∧OwnL w' lo w'.heap.size a' c' ys∧w.grownBy w' (Value.slice a xs.length c).ownBlock∧
   (∀ k,(Value.slice a' ys.length c').ownBlock=some k→(Value.slice a xs.length c).ownBlock=some k∨k=w.heap.size):=by
 obtain ⟨i0,hi0,hz0,hz1,hz2⟩:=info_parts Tryz.infoLive
 cases sa with
 | none=>
  have hz:zs=[]:=by
   by_cases e:zs=[]
   ·exact e
   ·obtain ⟨b,off,hh,_⟩:=hr e
    cases hh
  subst hz
  have:=hc rfl
  subst this
  refine ⟨a,c,xs,w,run_append_owned_none (P:=Tryz.prog) (w:=w) lo 55 ty 109 i0 3 Tryz.underlying55 hi0 _ _ _ hown.1,(by simp [Hid]),⟨hown.1,Nat.le_refl _,fun k hk=>(hown.1.lt k hk).2⟩,World.grownBy.refl _ _,fun k hk=>.inl hk⟩
 | some ad=>
  obtain ⟨v',w',h1,h2,h3,_,h5⟩:=run_append_own_at (P:=Tryz.prog) w lo 55 ty 109 i0 (.agg #[.int .i64 0,.int .i64 0,.bool false]) 3 24 Tryz.underlying55 hi0 hz0 hz1 hz2 rfl (by decide) _ _ _ hown.1 ad zs.length sc (cellsL zs) (by rw [cellsL_len]) (by
   intro j u hj
   have hjl:j<zs.length*3:=by rw [← cellsL_len];exact (List.getElem?_eq_some_iff.1 hj).1
   have hne:zs≠[]:=by intro e;simp [e] at hjl
   obtain ⟨b,off,hh,hcell⟩:=hr hne
   cases hh
   have hat:=cellsL_at zs (j / 3) (j % 3) (by omega) (Nat.mod_lt _ (by omega))
   rw [show j / 3*3+j % 3=j by omega,hj] at hat
   obtain ⟨k0,k1,k2⟩:=hcell (j / 3) (by omega)
   rw [Addr_add]
   rcases (by omega:j % 3=0∨j % 3=1∨j % 3=2) with h' | h' | h'<;>rw [h'] at hat<;>simp only [LiveV.cells,List.getElem?_cons_zero,List.getElem?_cons_succ,Option.some.injEq] at hat
   ·rw [show off+j=off+j / 3*3 by omega,k0,hat]
   ·rw [show off+j=off+j / 3*3+1 by omega,k1,hat]
   ·rw [show off+j=off+j / 3*3+2 by omega,k2,hat]) (lives_oneCell _) (by simp only [maxLen];omega) (by omega) hlo
  rw [← cellsL_app,← List.length_append] at h2
  have sh:∃ a' c',v'=.slice a' (xs++zs).length c':=by
   rcases h2.2 with ⟨rfl,h0⟩ | ⟨g,cap,cur,rfl,_⟩
   ·exact ⟨none,0,by rw [h0]⟩
   ·exact ⟨_,_,rfl⟩
  obtain ⟨a',c',rfl⟩:=sh
  refine ⟨a',c',xs++zs,w',h1,rfl,⟨h2,Nat.le_refl _,fun k hk=>(h2.lt k hk).2⟩,h3,fun k hk=>?_⟩
  rcases h5 with h5 | h5
  ·exact .inl (by rw [← h5];exact hk)
  ·rw [h5] at hk
   exact .inr (Option.some.inj hk).symm
theorem step_append_lives {w:World} {ops:Array Oper} {o:Oper} {act:Act} {K:Act→World→Prop} {Q:Exit→Act→World→Prop} {E:Prop} (hgd:o.guard=none) (s x:Operand)
  (ho:o.op=.call { callee:=.builtin .append,args:=#[s,x],argTypes:=#[55,55] })
  (lo hi:Nat) (a:Option Addr) (c:Nat) (xs:List LiveV) (hs:act.eval s=.slice a xs.length c) (hown:OwnL w lo hi a c xs)
  (sa:Option Addr) (sc:Nat) (zs:List LiveV) (hx:act.eval x=.slice sa zs.length sc) (hr:ReadsL w sa zs) (hc:sa=none→sc=0)
  (hb:xs.length+zs.length≤1099511627776) (hlo:lo≤w.heap.size)
  (h:∀ a' c' ys w',Hid (ys=xs++zs)→OwnL w' lo w'.heap.size a' c' ys→w.grownBy w' (Value.slice a xs.length c).ownBlock→
   (∀ k,(Value.slice a' ys.length c').ownBlock=some k→(Value.slice a xs.length c).ownBlock=some k∨k=w.heap.size)→K (act.put o.dst (.slice a' ys.length c')) w'):
  if Region.wanted o (yielded ops act.tmps)=true then Oper.wp Tryz.prog o act w K Q else E:=by
 have hw:Region.wanted o (yielded ops act.tmps)=true:=by simp [Region.wanted,hgd]
 rw [if_pos hw]
 obtain ⟨a',c',ys,w',hrun,h1,h2,h3,h4⟩:=run_append_lives (w:=w) o.type lo hi a c xs hown sa sc zs hr hc hb hlo
 unfold Oper.wp execOp
 simp only [ho,resolve,invoke,builtin,Sem.run_bind,Sem.run_pure,Result.andThen_ok,List.map_toArray,List.map_cons,List.map_nil,hs,hx,hrun]
 exact h a' c' ys w' h1 h2 h3 h4
theorem run_append_holds {w:World} (ty:TypeId) (lo hi:Nat) (a:Option Addr) (c:Nat) (xs:List HoldV) (hown:OwnH w lo hi a c xs)
  (sa:Option Addr) (sc:Nat) (zs:List HoldV) (hr:ReadsH w sa zs) (hc:sa=none→sc=0) (hb:xs.length+zs.length≤1099511627776) (hlo:lo≤w.heap.size):
  ∃ a' c' ys w',(Builtin.append_ #[56,56] ty #[.slice a xs.length c,.slice sa zs.length sc]).run Tryz.prog w=.ok (.slice a' ys.length c') w'∧Hid (ys=xs++zs)∧OwnH w' lo w'.heap.size a' c' ys∧w.grownBy w' (Value.slice a xs.length c).ownBlock∧
   (∀ k,(Value.slice a' ys.length c').ownBlock=some k→(Value.slice a xs.length c).ownBlock=some k∨k=w.heap.size):=by
 obtain ⟨i0,hi0,hz0,hz1,hz2⟩:=info_parts Tryz.infoHold
 cases sa with
 | none=>
  have hz:zs=[]:=by
   by_cases e:zs=[]
   ·exact e
   ·obtain ⟨b,off,hh,_⟩:=hr e
    cases hh
  subst hz
  have:=hc rfl
  subst this
  refine ⟨a,c,xs,w,run_append_owned_none (P:=Tryz.prog) (w:=w) lo 56 ty 113 i0 2 Tryz.underlying56 hi0 _ _ _ hown.1,(by simp [Hid]),⟨hown.1,Nat.le_refl _,fun k hk=>(hown.1.lt k hk).2⟩,World.grownBy.refl _ _,fun k hk=>.inl hk⟩
 | some ad=>
  obtain ⟨v',w',h1,h2,h3,_,h5⟩:=run_append_own_at (P:=Tryz.prog) w lo 56 ty 113 i0 (.agg #[.int .i64 0,.int .i64 0]) 2 16 Tryz.underlying56 hi0 hz0 hz1 hz2 rfl (by decide) _ _ _ hown.1 ad zs.length sc (cellsH zs) (by rw [cellsH_len]) (by
   intro j u hj
   have hjl:j<zs.length*2:=by rw [← cellsH_len];exact (List.getElem?_eq_some_iff.1 hj).1
   have hne:zs≠[]:=by intro e;simp [e] at hjl
   obtain ⟨b,off,hh,hcell⟩:=hr hne
   cases hh
   have hat:=cellsH_at zs (j / 2) (j % 2) (by omega) (Nat.mod_lt _ (by omega))
   rw [show j / 2*2+j % 2=j by omega,hj] at hat
   obtain ⟨k0,k1⟩:=hcell (j / 2) (by omega)
   rw [Addr_add]
   rcases (by omega:j % 2=0∨j % 2=1) with h' | h'<;>rw [h'] at hat<;>simp only [HoldV.cells,List.getElem?_cons_zero,List.getElem?_cons_succ,Option.some.injEq] at hat
   ·rw [show off+j=off+j / 2*2 by omega,k0,hat]
   ·rw [show off+j=off+j / 2*2+1 by omega,k1,hat]) (holds_oneCell _) (by simp only [maxLen];omega) (by omega) hlo
  rw [← cellsH_app,← List.length_append] at h2
  have sh:∃ a' c',v'=.slice a' (xs++zs).length c':=by
   rcases h2.2 with ⟨rfl,h0⟩ | ⟨g,cap,cur,rfl,_⟩
   ·exact ⟨none,0,by rw [h0]⟩
   ·exact ⟨_,_,rfl⟩
  obtain ⟨a',c',rfl⟩:=sh
  refine ⟨a',c',xs++zs,w',h1,rfl,⟨h2,Nat.le_refl _,fun k hk=>(h2.lt k hk).2⟩,h3,fun k hk=>?_⟩
  rcases h5 with h5 | h5
  ·exact .inl (by rw [← h5];exact hk)
  ·rw [h5] at hk
   exact .inr (Option.some.inj hk).symm
end Go.Proofs.YtcoeamamaifoeaaGreatDoor
namespace Go.Proofs.YtcoeamamaifoeaaGreatDoor
def unl (l:Array Bool):Nat:=l.toList.countP (fun b=> !b)
theorem unl_set {l:Array Bool} {i:Nat} (h:l.getD i true=false):unl l=unl (l.setIfInBounds i true)+1:=by
 obtain ⟨xs⟩:=l
 have hi:xs[i]? =some false:=by
  simp only [Array.getD_eq_getD_getElem?,List.getElem?_toArray] at h
  cases hx:xs[i]? with
  | none=>rw [hx] at h;cases h
  | some b=>rw [hx] at h;simp at h;rw [h]
 simp only [unl,List.setIfInBounds_toArray]
 clear h
 induction xs generalizing i with
 | nil=>simp at hi
 | cons x r ih=>
  cases i with
  | zero=>simp at hi;subst hi;simp
  | succ i=>
   simp only [List.getElem?_cons_succ] at hi
   have:=ih hi
   simp only [List.set_cons_succ,List.countP_cons]
   omega
theorem ready_at {md:Region.Mode} {ops:Array Oper} {l:Array Bool} {i:Nat} (h:i∈Region.ready md ops l):l.getD i true=false:=(mem_ready.1 h).1
theorem wpAnyH_inv {P:Program} {ops:Array Oper} {Q:Exit→Act→World→Prop} {md:Region.Mode} {S:World→Prop} (I:Array Bool→Act→World→Prop) (stop:Array Bool→Bool)
  (hstep:∀ l a w,I l a w→stop l=false→Region.ready md ops l≠[]∧∀ i∈Region.ready md ops l,wpOp P ops Q i (fun a' w'=>S w'∧I (l.setIfInBounds i true) a' w') a w)
  (hstop:∀ l a w,I l a w→stop l=true→wpAnyH P md ops Q S (unl l) l a w):
  ∀ (k:Nat) (l:Array Bool) (a:Act) (w:World),unl l=k→I l a w→wpAnyH P md ops Q S k l a w:=by
 intro k
 induction k with
 | zero=>
  intro l a w hk hI
  cases hs:stop l with
  | true=>have:=hstop l a w hI hs;rw [hk] at this;exact this
  | false=>
   obtain ⟨hne,_⟩:=hstep l a w hI hs
   cases hr:Region.ready md ops l with
   | nil=>exact absurd hr hne
   | cons i r=>
    have:=unl_set (ready_at (md:=md) (ops:=ops) (l:=l) (i:=i) (by rw [hr];exact List.mem_cons_self))
    omega
 | succ k ih=>
  intro l a w hk hI
  cases hs:stop l with
  | true=>have:=hstop l a w hI hs;rw [hk] at this;exact this
  | false=>
   obtain ⟨hne,hall⟩:=hstep l a w hI hs
   refine ⟨fun h0=>absurd h0 hne,fun i hi=>?_⟩
   have hu:=unl_set (ready_at hi)
   exact wpOp_mono (fun a' w' h=>⟨h.1,ih _ a' w' (by omega) h.2⟩) (hall i hi)
theorem wpOp_inv {P:Program} {ops:Array Oper} {Q:Exit→Act→World→Prop} {i:Nat} {o:Oper} {a:Act} {w:World} {K:Act→World→Prop} (ho:ops[i]? =some o)
  (h:∀ K':Act→World→Prop,Shut (∀ a w,K a w→K' a w)→if Region.wanted o (yielded ops a.tmps)=true then Oper.wp P o a w K' Q else K' (a.put o.dst undef) w):wpOp P ops Q i K a w:=
 wpOp_step ho (fun K' hK=>h K' hK)
theorem inv_step {P:Program} {ops:Array Oper} {Q:Exit→Act→World→Prop} {md:Region.Mode} {l:Array Bool} {a:Act} {w:World} {K:Nat→Act→World→Prop} (alt:Nat→Bool) (hr:(!(Region.ready md ops l).isEmpty && (Region.ready md ops l).all alt)=true)
  (h:∀ j,alt j=true→wpOp P ops Q j (K j) a w):Region.ready md ops l≠[]∧∀ i∈Region.ready md ops l,wpOp P ops Q i (K i) a w:=by
 rw [Bool.and_eq_true,List.all_eq_true] at hr
 refine ⟨fun h0=>?_,fun i hi=>h i (hr.2 i hi)⟩
 rw [h0] at hr
 exact absurd hr.1 (by simp)
end Go.Proofs.YtcoeamamaifoeaaGreatDoor