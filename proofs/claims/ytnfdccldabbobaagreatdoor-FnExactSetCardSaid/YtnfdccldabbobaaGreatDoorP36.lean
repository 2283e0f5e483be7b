/- Texts. -/
import Derived.Test.YtnfdccldabbobaaGreatDoorP21
set_option maxHeartbeats 8000000
set_option maxRecDepth 100000
namespace Go.Proofs.YtnfdccldabbobaaGreatDoor
open Go.RowKit Go.Proofs.Tryz
theorem Ps (ss:List q9):∀ (ts:List q9) (no:Int) (b:Nat),ss.map (·.no)=ts.map (·.no)→kN no ss b=kN no ts b:=by
 induction ss with
 | nil=>intro ts no b h;cases ts with
  | nil=>rfl
  | cons t r=>simp at h
 | cons s r ih=>
  intro ts no b h;cases ts with
  | nil=>simp at h
  | cons t q=>
   simp only [qdG,qfh] at h;rw [kN,kN,h.1,ih q no (b+1) h.2]
theorem YS {ss ts:List q9} (no:Int) (h:ss.map (·.no)=ts.map (·.no)):qG ss no=qG ts no:=Ps ss ts no 0 h
theorem VV (ss:List q9) (k:Nat) (x:q9) (h:x.no=(ss.getD k qy).no):(ss.set k x).map (·.no)=ss.map (·.no):=by
 induction ss generalizing k with
 | nil=>rfl
 | cons s r ih=>
  cases k with
  | zero=>simp only [qdL,qdG,qfp] at h ⊢;rw [h]
  | succ k=>simp only [qe3,qdG,List.getD_cons_succ] at h ⊢;rw [ih k h]
theorem Zx (ss:List q9) (k j:Nat) (x:q9) (hk:k<ss.length):(ss.set k x).getD j qy=if j=k then x else ss.getD j qy:=by
 by_cases h:j=k
 ·subst h;simp [List.getD,List.getElem?_set_self hk]
 ·rw [qa2 h];simp [List.getD,List.getElem?_set_ne (Ne.symm h)]
theorem Ah {p:jM} {k:Nat} {f:q9→q9} (hp:okPool p=true) (hk:k<p.seats.length) (hn:(f (p.seats.getD k qy)).no=(p.seats.getD k qy).no) (hb:yM (f (p.seats.getD k qy))=true):okPool (yj p k f)=true:=by
 obtain ⟨h1,h2,h3⟩:=uj hp;refine KC (by simpa [yj] using h1) h2 (fun j hj=>?_);have hj':j<p.seats.length:=by simpa [yj] using hj
 have h4:=h3 j hj';simp only [yH,qam,qcB] at h4 ⊢;have e:((yj p k f).seats.getD j qy).no=(p.seats.getD j qy).no:=by
  rw [yj];simp only;rw [Zx _ _ _ _ hk];split
  ·rename_i h;rw [hn,h]
  ·rfl
 rw [e,show qG (yj p k f).seats (p.seats.getD j qy).no=qG p.seats (p.seats.getD j qy).no from YS _ (VV p.seats k _ hn)];refine ⟨?_,h4.2⟩;rw [yj];simp only;rw [Zx _ _ _ _ hk];split
 ·exact hb
 ·exact h4.1
end Go.Proofs.YtnfdccldabbobaaGreatDoor
