import Derived.Test.YtblkkhfdeaaidaaGreatDoorTxPaAndLfp
import Derived.Test.YtblkkhfdeaaidaaGreatDoorTxNuAndHeldSeq
import Derived.Lib.MinMax
import Derived.Test.YtblkkhfdeaaidaaGreatDoorTxRlsAndMayG
import Derived.Deep.LoopGhost
import Derived.Deep.CutRange
import Derived.Test.YtblkkhfdeaaidaaGreatDoorMathAndTxSc
import Derived.Test.YtblkkhfdeaaidaaGreatDoorHeldAnyAndTxLn
set_option maxHeartbeats 3200000
set_option maxRecDepth 100000
namespace Go.Proofs.YtblkkhfdeaaidaaGreatDoor
def nL(A:Int->Int->Prop):List Sy->Int->Prop
 | [],v=>v=0
 |(true,_)::l,v=> ∃u,nL A l u/\v=1+u
 |(false,n)::l,v=> ∃a u,A n a/\nL A l u/\v=a+u
def lid:Int:=1000000000
def Ct(R:List Ru)(A:Int->Int->Prop)(n v:Int):Prop:=∃r∈R,r.1=n/\∃s,nL A r.2 s/\v=min s lid
def nM(R:List Ru):Nat->Int->Int->Prop
 |0,_,_=>False
 |k+1,n,v=>Ct R (nM R k) n v
def Can(R:List Ru)(n v:Int):Prop:=∃k,nM R k n v
theorem nL.mono{A B:Int->Int->Prop}(h:∀n v,A n v->B n v):∀{l:List Sy} {v:Int},nL A l v->nL B l v:=by
 intro l
 induction l with
 |nil=>intro v hv;exact hv
 |cons s l ih=>
  intro v hv;obtain⟨b,n⟩:=s;cases b with
  |true=>obtain⟨u,h1,h2⟩:=hv;exact⟨u,ih h1,h2⟩
  |false=>obtain⟨a,u,h0,h1,h2⟩:=hv;exact⟨a,u,h _ _ h0,ih h1,h2⟩
theorem Ct.mono{R:List Ru}{A B:Int->Int->Prop}(h:∀n v,A n v->B n v){n v:Int}(hv:Ct R A n v):Ct R B n v:=by
 obtain⟨r,h1,h2,s,h3,h4⟩:=hv;exact⟨r,h1,h2,s,h3.mono h,h4⟩
theorem XV{R:List Ru}:∀k n v,nM R k n v->nM R (k+1) n v:=by
 intro k
 induction k with
 |zero=>intro n v h;exact h.elim
 |succ k ih=>intro n v h;exact Ct.mono ih h
theorem zY{R:List Ru}{k m:Nat}(h:k<=m):∀n v,nM R k n v->nM R m n v:=by
 induction h with
 |refl=>intro n v h;exact h
 |step _ ih=>intro n v h;exact XV _ _ _ (ih n v h)
theorem XW{R:List Ru}:∀{l:List Sy} {v:Int},nL (Can R) l v->∃k,nL (nM R k) l v:=by
 intro l
 induction l with
 |nil=>intro v h;exact⟨0,h⟩
 |cons s l ih=>
  intro v h;obtain⟨b,n⟩:=s;cases b with
  |true=>
   obtain⟨u,h1,h2⟩:=h;obtain⟨k,hk⟩:=ih h1;exact⟨k,u,hk,h2⟩
  |false=>
   obtain⟨a,u,⟨m,h0⟩,h1,h2⟩:=h;obtain⟨k,hk⟩:=ih h1;exact⟨max m k,a,u,zY (Nat.le_max_left _ _) _ _ h0,hk.mono (zY (Nat.le_max_right _ _)),h2⟩
theorem XY{R:List Ru}{r:Ru}(hr:r∈R){s:Int}(h:nL (Can R) r.2 s):Can R r.1 (min s lid):=by
 obtain⟨k,hk⟩:=XW h;exact⟨k+1,r,hr,rfl,s,hk,rfl⟩
theorem Cu{A:Int->Int->Prop}(h:∀n v,A n v->0<=v):∀{l:List Sy} {v:Int},nL A l v->0<=v:=by
 intro l
 induction l with
 |nil=>intro v hv;have:v=0:=hv;omega
 |cons s l ih=>
  intro v hv;obtain⟨b,n⟩:=s;cases b with
  |true=>obtain⟨u,h1,h2⟩:=hv;have:=ih h1;omega
  |false=>obtain⟨a,u,h0,h1,h2⟩:=hv;have:=ih h1;have:=h _ _ h0;omega
theorem zZ{R:List Ru}:∀k n v,nM R k n v->0<=v/\v<=lid:=by
 intro k
 induction k with
 |zero=>intro n v h;exact h.elim
 |succ k ih=>
  rintro n v ⟨r,_,_,s,h3,rfl⟩;have:=Cu (fun n v h=>(ih n v h).1) h3;unfold lid;omega
theorem JR{R:List Ru}{n v:Int}(h:Can R n v):0<=v/\v<=lid:=by
 obtain⟨k,h⟩:=h;exact zZ k n v h
structure nN(N:Nat)(R:List Ru)(O:List Int):Prop where
 len:O.length=N
 none:∀n,n<N->O.getD n 0<0->O.getD n 0= -1/\∀v,¬Can R n v
 some:∀n,n<N->0<=O.getD n 0->Can R n (O.getD n 0)/\∀v,Can R n v->O.getD n 0<=v
theorem nN.one{N:Nat}{R:List Ru}{O P:List Int}(h:nN N R O)(k:nN N R P):O=P:=by
 refine List.ext_getElem (by rw[h.len,k.len]) fun i h1 h2=> ?_;have hi:i<N:=by rw[<-h.len];exact h1
 have e1:O.getD i 0=O[i]:=by simp[List.getD,h1]
 have e2:P.getD i 0=P[i]:=by simp[List.getD,h2]
 rw[<-e1,<-e2];by_cases a:O.getD i 0<0
 ·obtain⟨a1,a2⟩:=h.none i hi a
  by_cases b:P.getD i 0<0
  ·rw[a1,(k.none i hi b).1]
  ·exact absurd (k.some i hi (by omega)).1 (a2 _)
 ·obtain⟨a1,a2⟩:=h.some i hi (by omega)
  by_cases b:P.getD i 0<0
  ·exact absurd a1 ((k.none i hi b).2 _)
  ·obtain⟨b1,b2⟩:=k.some i hi (by omega)
   have:=a2 _ b1;have:=b2 _ a1;omega
def fZ(O:List Int):List Sy->Option Int
 | []=>some 0
 |(true,_)::l=>(fZ O l).map (1+ ·)
 |(false,n)::l=>if O.getD n.toNat 0<0 then none else (fZ O l).map (O.getD n.toNat 0+ ·)
def bL(O:List Int)(l:List Sy):Int:=match fZ O l with|none=> -1|some s=>min s lid
structure Told(N:Nat)(R:List Ru)(O:List Int):Prop where
 len:O.length=N
 neg:∀n,n<N->O.getD n 0<0->O.getD n 0= -1
 some:∀n,n<N->0<=O.getD n 0->Can R n (O.getD n 0)/\∀v,Can R n v->O.getD n 0<=v
section
variable{T N:Nat}{R:List Ru}
theorem FH{O:List Int}(hO:∀n:Nat,n<N->0<=O.getD n 0->Can R n (O.getD n 0)):∀{l:List Sy} {s:Int},(∀x∈l,x.1=false->0<=x.2/\x.2<(N:Int))->fZ O l=some s->nL (Can R) l s/\0<=s:=by
 intro l
 induction l with
 |nil=>intro s _ h;simp only[fZ,Option.some.injEq]at h;subst h;exact⟨rfl,Int.le_refl _⟩
 |cons x l ih=>
  intro s hin h;have hin':∀x∈l,x.1=false->0<=x.2/\x.2<(N:Int):=fun x hx=>hin x (List.mem_cons_of_mem _ hx);obtain⟨b,n⟩:=x;cases b with
  |true=>
   simp only[fZ,Option.map_eq_some_iff]at h;obtain⟨u,h1,rfl⟩:=h;obtain⟨k1,k2⟩:=ih hin' h1;exact⟨⟨u,k1,rfl⟩,by omega⟩
  |false=>
   have hn:=hin (false,n) (by simp) rfl;simp only at hn;simp only[fZ]at h;split at h
   ·cases h
   ·rename_i hneg
    simp only[Option.map_eq_some_iff]at h;obtain⟨u,h1,rfl⟩:=h;obtain⟨k1,k2⟩:=ih hin' h1;have hc:=hO n.toNat (by omega) (by omega);have e:((n.toNat:Nat):Int)=n:=by omega
    rw[e]at hc;exact⟨⟨_,u,hc,k1,rfl⟩,by omega⟩
theorem XZ{O:List Int}{l:List Sy}(hO:∀n:Nat,n<N->0<=O.getD n 0->Can R n (O.getD n 0))(hin:∀x∈l,x.1=false->0<=x.2/\x.2<(N:Int)):bL O l= -1\/0<=bL O l/\bL O l<=lid:=by
 unfold bL;cases h:fZ O l with
 |none=>exact .inl rfl
 |some s=>
  have:=(FH hO hin h).2;right;simp only[lid];omega
theorem O3{O:List Int}(hf:bM T N R)(hO:∀n:Nat,n<N->0<=O.getD n 0->Can R n (O.getD n 0)){r:Ru}(hr:r∈R)(h:0<=bL O r.2):Can R r.1 (bL O r.2):=by
 unfold bL at h⊢;cases hs:fZ O r.2 with
 |none=>rw[hs]at h;simp at h
 |some s=>exact XY hr (FH hO (hf.name r hr) hs).1
theorem O4{O:List Int}{A:Int->Int->Prop}(hA:∀n v,A n v->0<=v):∀{l:List Sy} {s:Int},(∀n v:Int,(false,n)∈l->A n v->0<=O.getD n.toNat 0->O.getD n.toNat 0<=v)->nL A l s->
 (∃s',fZ O l=some s'/\s'<=s)\/∃n v:Int,(false,n)∈l/\O.getD n.toNat 0<0/\A n v/\v<=s:=by
 intro l
 induction l with
 |nil=>intro s _ h;have h':s=0:=h;subst h';exact .inl ⟨0,rfl,Int.le_refl _⟩
 |cons x l ih=>
  intro s hle h;have hle':∀n v:Int,(false,n)∈l->A n v->0<=O.getD n.toNat 0->O.getD n.toNat 0<=v:=fun n v hm=>hle n v (List.mem_cons_of_mem _ hm);obtain⟨b,n⟩:=x;cases b with
  |true=>
   obtain⟨u,h1,h2⟩:=h;have hu:=Cu hA h1;rcases ih hle' h1 with⟨s',k1,k2⟩|⟨m,v,k1,k2,k3,k4⟩
   ·exact .inl ⟨1+s',by simp[fZ,k1],by omega⟩
   ·exact .inr ⟨m,v,List.mem_cons_of_mem _ k1,k2,k3,by omega⟩
  |false=>
   obtain⟨a,u,h0,h1,h2⟩:=h;have hu:=Cu hA h1;have ha:=hA _ _ h0;by_cases hneg:O.getD n.toNat 0<0
   ·exact .inr ⟨n,a,by simp,hneg,h0,by omega⟩
   ·rcases ih hle' h1 with⟨s',k1,k2⟩|⟨m,v,k1,k2,k3,k4⟩
    ·have:=hle n a (by simp) h0 (by omega)
     exact .inl ⟨O.getD n.toNat 0+s',by rw[fZ,if_neg hneg,k1];rfl,by omega⟩
    ·exact .inr ⟨m,v,List.mem_cons_of_mem _ k1,k2,k3,by omega⟩
theorem O5{O:List Int}(hf:bM T N R)(hO:Told N R O){b:Int}(hb:∀r∈R,O.getD r.1.toNat 0<0->0<=bL O r.2->b<=bL O r.2):∀k n v,nM R k n v->O.getD n.toNat 0<0->
 b<=v/\∃r∈R,O.getD r.1.toNat 0<0/\0<=bL O r.2:=by
 intro k
 induction k with
 |zero=>intro n v h;exact h.elim
 |succ k ih=>
  rintro n v ⟨r,hr,rfl,s,hs,rfl⟩ hneg;have hsn:=Cu (fun n v h=>(zZ k n v h).1) hs
  have hle:∀n v:Int,(false,n)∈r.2->nM R k n v->0<=O.getD n.toNat 0->O.getD n.toNat 0<=v:=fun n v hm hc h0=>by
   have hn:=hf.name r hr _ hm rfl;simp only at hn;refine(hO.some n.toNat (by omega) h0).2 v ?_;have e:((n.toNat:Nat):Int)=n:=by omega
   rw[e];exact⟨k,hc⟩
  rcases O4 (fun n v h=>(zZ k n v h).1) hle hs with⟨s',h1,h2⟩|⟨m,u,h1,h2,h3,h4⟩
  ·have hs':=(FH (fun n hn h=>(hO.some n hn h).1) (hf.name r hr) h1).2
   have hv:bL O r.2=min s' lid:=by unfold bL;rw[h1]
   have h0:0<=bL O r.2:=by rw[hv];unfold lid;omega
   have:=hb r hr hneg h0;rw[hv]at this;exact⟨by omega,r,hr,hneg,h0⟩
  ·obtain⟨a1,a2⟩:=ih m u h3 h2
   have:=(zZ k m u h3).2;exact⟨by omega,a2⟩
def uP(R:List Ru)(O:List Int)(i:Nat)(p:Int×Int):Int×Int:=
 if 0<=O.getD (R.getD i (0,[])).1.toNat 0 then p else
  if 0<=bL O (R.getD i (0,[])).2/\(p.1<0\/bL O (R.getD i (0,[])).2<p.1) then (bL O (R.getD i (0,[])).2,(R.getD i (0,[])).1) else p
def l9(R:List Ru)(O:List Int):Int×Int:=aK R.length (uP R O) (-1,-1)
def yH(R:List Ru)(O:List Int)(j:Nat):Prop:=O.getD (R.getD j (0,[])).1.toNat 0<0/\0<=bL O (R.getD j (0,[])).2
theorem JS(R:List Ru)(O:List Int)(n:Nat)(hn:n<=R.length):(aK n (uP R O) (-1,-1)=(-1,-1)/\∀j,j<n->¬yH R O j)\/
 (∃j,j<n/\yH R O j/\aK n (uP R O) (-1,-1)=(bL O (R.getD j (0,[])).2,(R.getD j (0,[])).1))/\∀j,j<n->yH R O j->(aK n (uP R O) (-1,-1)).1<=bL O (R.getD j (0,[])).2:=by
 induction n with
 |zero=>exact .inl ⟨rfl,fun j hj=>absurd hj (Nat.not_lt_zero _)⟩
 |succ n ih=>
  have e:aK (n+1) (uP R O) (-1,-1)=uP R O n (aK n (uP R O) (-1,-1)):=rfl;rw[e];obtain⟨p,hp⟩:∃p,aK n (uP R O) (-1,-1)=p:=⟨_,rfl⟩;rw[hp]at ih⊢;unfold uP;by_cases h0:0<=O.getD (R.getD n (0,[])).1.toNat 0
  ·rw[if_pos h0]
   have hno:¬yH R O n:=fun h=>by have:=h.1;omega
   rcases ih (by omega) with⟨h1,h2⟩|⟨⟨j,h1,h2,h3⟩,h4⟩
   ·refine .inl ⟨h1,fun j hj=> ?_⟩
    rcases Nat.lt_succ_iff_lt_or_eq.1 hj with hj|rfl
    ·exact h2 j hj
    ·exact hno
   ·refine .inr ⟨⟨j,by omega,h2,h3⟩,fun i hi hc=> ?_⟩
    rcases Nat.lt_succ_iff_lt_or_eq.1 hi with hi|rfl
    ·exact h4 i hi hc
    ·exact absurd hc hno
  ·rw[if_neg h0]
   by_cases h1:0<=bL O (R.getD n (0,[])).2
   ·have hc:yH R O n:=⟨by omega,h1⟩
    rcases ih (by omega) with⟨rfl,h2⟩|⟨⟨j,k1,k2,k3⟩,h4⟩
    ·rw[if_pos ⟨h1,.inl (by simp)⟩]
     refine .inr ⟨⟨n,by omega,hc,rfl⟩,fun i hi hci=> ?_⟩;rcases Nat.lt_succ_iff_lt_or_eq.1 hi with hi|rfl
     ·exact absurd hci (h2 i hi)
     ·exact Int.le_refl _
    ·have hp1:0<=p.1:=by rw[k3];exact k2.2
     by_cases h5:bL O (R.getD n (0,[])).2<p.1
     ·rw[if_pos ⟨h1,.inr h5⟩]
      refine .inr ⟨⟨n,by omega,hc,rfl⟩,fun i hi hci=> ?_⟩;rcases Nat.lt_succ_iff_lt_or_eq.1 hi with hi|rfl
      ·have:=h4 i hi hci;simp only;omega
      ·exact Int.le_refl _
     ·rw[if_neg (by rintro ⟨_,h|h⟩<;>omega)]
      refine .inr ⟨⟨j,by omega,k2,k3⟩,fun i hi hci=> ?_⟩;rcases Nat.lt_succ_iff_lt_or_eq.1 hi with hi|rfl
      ·exact h4 i hi hci
      ·omega
   ·have hno:¬yH R O n:=fun h=>h1 h.2
    rw[if_neg (fun h=>h1 h.1)];rcases ih (by omega) with⟨k1,h2⟩|⟨⟨j,k1,k2,k3⟩,h4⟩
    ·refine .inl ⟨k1,fun j hj=> ?_⟩
     rcases Nat.lt_succ_iff_lt_or_eq.1 hj with hj|rfl
     ·exact h2 j hj
     ·exact hno
    ·refine .inr ⟨⟨j,by omega,k2,k3⟩,fun i hi hci=> ?_⟩
     rcases Nat.lt_succ_iff_lt_or_eq.1 hi with hi|rfl
     ·exact h4 i hi hci
     ·exact absurd hci hno
def unset(O:List Int):Nat:=(O.filter fun v=>decide (v<0)).length
theorem X3{O:List Int}{k:Nat}{v:Int}(hk:k<O.length)(h0:O.getD k 0<0)(hv:0<=v):unset (O.set k v)<unset O:=by
 induction O generalizing k with
 |nil=>simp at hk
 |cons x O ih=>
  cases k with
  |zero=>
   have hx:x<0:=by simpa using h0
   have:¬v<0:=by omega
   simp[unset,hx,this]
  |succ k=>
   have:=ih (k:=k) (by simpa using hk) (by simpa using h0);unfold unset at this⊢;simp only[List.set_cons_succ,List.filter_cons];split<;>simp<;>exact this
theorem X4{O:List Int}(hf:bM T N R)(hO:Told N R O)(h:(l9 R O).2<0):nN N R O:=by
 refine⟨hO.len,fun n hn hneg=>⟨hO.neg n hn hneg,fun v ⟨k,hv⟩=> ?_⟩,hO.some⟩;rcases JS R O R.length (Nat.le_refl _) with⟨_,h2⟩|⟨⟨j,h1,h2,h3⟩,_⟩
 ·have hno:∀r∈R,O.getD r.1.toNat 0<0->0<=bL O r.2->False:=fun r hr k1 k2=>by
   obtain⟨j,hj,rfl⟩:=List.getElem_of_mem hr;have e:R.getD j (0,[])=R[j]:=by simp[List.getD,hj]
   exact h2 j hj ⟨by rw[e];exact k1,by rw[e];exact k2⟩
  obtain⟨_,r,hr,k1,k2⟩:=O5 hf hO (b:=0) (fun r hr k1 k2=>(hno r hr k1 k2).elim) k n v hv (by simpa using hneg);exact hno r hr k1 k2
 ·have e:(l9 R O).2=(R.getD j (0,[])).1:=by unfold l9;rw[h3]
  have hm:R.getD j (0,[])∈R:=by simp[List.getD,h1]
  have:=hf.left _ hm;omega
theorem X5{O:List Int}(hf:bM T N R)(hO:Told N R O)(h:0<=(l9 R O).2):
 (l9 R O).2<(N:Int)/\0<=(l9 R O).1/\(l9 R O).1<=lid/\Told N R (O.set (l9 R O).2.toNat (l9 R O).1)/\unset (O.set (l9 R O).2.toNat (l9 R O).1)<unset O:=by
 rcases JS R O R.length (Nat.le_refl _) with⟨h1,_⟩|⟨⟨j,h1,h2,h3⟩,h4⟩
 ·unfold l9 at h
  rw[h1]at h;simp at h
 ·have hm:R.getD j (0,[])∈R:=by simp[List.getD,h1]
  have hL:=hf.left _ hm;have e:l9 R O=(bL O (R.getD j (0,[])).2,(R.getD j (0,[])).1):=h3
  have e4:∀i,i<R.length->yH R O i->bL O (R.getD j (0,[])).2<=bL O (R.getD i (0,[])).2:=fun i hi hc=>by
   have:=h4 i hi hc;rw[h3]at this;exact this
  rw[e];simp only;have hcan:=O3 hf (fun n hn h=>(hO.some n hn h).1) hm h2.2;have hlen:(R.getD j (0,[])).1.toNat<O.length:=by rw[hO.len];omega
  have cast:(((R.getD j (0,[])).1.toNat:Nat):Int)=(R.getD j (0,[])).1:=by omega
  refine⟨hL.2,h2.2,(JR hcan).2,⟨by simp[hO.len],fun n hn hneg=> ?_,fun n hn hpos=> ?_⟩,X3 hlen h2.1 h2.2⟩
  ·by_cases kJ:(R.getD j (0,[])).1.toNat=n
   ·have e1:(O.set (R.getD j (0,[])).1.toNat (bL O (R.getD j (0,[])).2)).getD n 0=bL O (R.getD j (0,[])).2:=by rw[kJ]at hlen⊢;rw[List.getD,List.getElem?_set_self hlen];rfl
    rw[e1]at hneg;have:=h2.2;omega
   ·have e1:(O.set (R.getD j (0,[])).1.toNat (bL O (R.getD j (0,[])).2)).getD n 0=O.getD n 0:=by rw[List.getD,List.getElem?_set_ne kJ];rfl
    rw[e1]at hneg⊢;exact hO.neg n hn hneg
  ·by_cases kJ:(R.getD j (0,[])).1.toNat=n
   ·have e1:(O.set (R.getD j (0,[])).1.toNat (bL O (R.getD j (0,[])).2)).getD n 0=bL O (R.getD j (0,[])).2:=by rw[kJ]at hlen⊢;rw[List.getD,List.getElem?_set_self hlen];rfl
    rw[e1,<-kJ,cast];refine⟨hcan,fun v ⟨k,hv⟩=> ?_⟩
    exact(O5 hf hO (b:=bL O (R.getD j (0,[])).2) (fun r hr k1 k2=>by
     obtain⟨i,hi,rfl⟩:=List.getElem_of_mem hr;have e2:R.getD i (0,[])=R[i]:=by simp[List.getD,hi]
     have:=e4 i hi ⟨by rw[e2];exact k1,by rw[e2];exact k2⟩
     rwa [e2]at this) k _ v hv h2.1).1
   ·have e1:(O.set (R.getD j (0,[])).1.toNat (bL O (R.getD j (0,[])).2)).getD n 0=O.getD n 0:=by rw[List.getD,List.getElem?_set_ne kJ];rfl
    rw[e1]at hpos⊢;exact hO.some n hn hpos
theorem X6(N:Nat)(R:List Ru):Told N R (List.replicate N (-1)):=by
 refine⟨by simp,fun n hn _=>by simp[List.getD,hn],fun n hn h=> ?_⟩;simp[List.getD,hn]at h
end
def iA(a b:Int):Int:=if a= -1\/(b≠ -1/\b<a) then b else a
def mh(R:List Ru)(j:Nat)(O:List Int):List Int:=O.set (R.getD j (0,[])).1.toNat (iA (O.getD (R.getD j (0,[])).1.toNat 0) (bL O (R.getD j (0,[])).2))
def Cv(R:List Ru)(O:List Int):List Int:=aK R.length (mh R) O
section
variable{T N:Nat}{R:List Ru}
structure nO(N:Nat)(R:List Ru)(O:List Int):Prop where
 len:O.length=N
 neg:∀n,n<N->O.getD n 0<0->O.getD n 0= -1
 some:∀n:Nat,n<N->0<=O.getD n 0->Can R n (O.getD n 0)
def qW(R:List Ru)(k:Nat)(O:List Int):Prop:=∀n v,nM R k n v->0<=O.getD n.toNat 0/\O.getD n.toNat 0<=v
def O6(O P:List Int):Prop:=∀n:Nat,0<=O.getD n 0->n<O.length->0<=P.getD n 0/\P.getD n 0<=O.getD n 0
theorem X7{O:List Int}{A:Int->Int->Prop}(hO:∀n:Nat,n<N->0<=O.getD n 0->A n (O.getD n 0)):∀{l:List Sy} {s:Int},(∀x∈l,x.1=false->0<=x.2/\x.2<(N:Int))->fZ O l=some s->nL A l s:=by
 intro l
 induction l with
 |nil=>intro s _ h;simp only[fZ,Option.some.injEq]at h;subst h;exact rfl
 |cons x l ih=>
  intro s hin h;have hin':∀x∈l,x.1=false->0<=x.2/\x.2<(N:Int):=fun x hx=>hin x (List.mem_cons_of_mem _ hx);obtain⟨b,n⟩:=x;cases b with
  |true=>
   simp only[fZ,Option.map_eq_some_iff]at h;obtain⟨u,h1,rfl⟩:=h;exact⟨u,ih hin' h1,rfl⟩
  |false=>
   have hn:=hin (false,n) (by simp) rfl;simp only at hn;simp only[fZ]at h;split at h
   ·cases h
   ·rename_i hneg
    simp only[Option.map_eq_some_iff]at h;obtain⟨u,h1,rfl⟩:=h;have hc:=hO n.toNat (by omega) (by omega);have e:((n.toNat:Nat):Int)=n:=by omega
    rw[e]at hc;exact⟨_,u,hc,ih hin' h1,rfl⟩
theorem Cw{O:List Int}{n:Nat}{v:Int}(h:n<O.length):(O.set n v).getD n 0=v:=by rw[List.getD,List.getElem?_set_self h];rfl
theorem getD_set_ne{O:List Int}{n m:Nat}{v:Int}(h:m≠n):(O.set m v).getD n 0=O.getD n 0:=by rw[List.getD,List.getElem?_set_ne h];rfl
theorem O7(O:List Int):unset O<=O.length:=List.length_filter_le _ _
theorem X8(hf:bM T N R):∀(d:Nat) (O:List Int),unset O<=d->Told N R O->(∀n:Nat,n<N->0<=O.getD n 0->nM R (N-unset O) n (O.getD n 0))->
 ∃P,nN N R P/\∀n:Nat,n<N->0<=P.getD n 0->nM R N n (P.getD n 0):=by
 intro d
 induction d with
 |zero=>
  intro O hd hO hL;refine⟨O,⟨hO.len,fun n hn hneg=> ?_,hO.some⟩,fun n hn h=>zY (Nat.sub_le _ _) _ _ (hL n hn h)⟩;exfalso
  have:O.getD n 0∈O.filter fun v=>decide (v<0):=by
   rw[List.mem_filter];exact⟨by rw[<-hO.len]at hn;simp[List.getD,hn],by simpa using hneg⟩
  have:=List.length_pos_of_mem this;unfold unset at hd;omega
 |succ d ih=>
  intro O hd hO hL;by_cases hp:(l9 R O).2<0
  ·exact⟨O,X4 hf hO hp,fun n hn h=>zY (Nat.sub_le _ _) _ _ (hL n hn h)⟩
  ·obtain⟨h1,h2,h3,h4,h5⟩:=X5 hf hO (by omega)
   have hun:=O7 O;rw[hO.len]at hun;refine ih _ (by omega) h4 fun n hn h=> ?_;rcases JS R O R.length (Nat.le_refl _) with⟨k1,_⟩|⟨⟨j,k1,k2,k3⟩,_⟩
   ·exfalso
    apply hp;unfold l9;rw[k1];decide
   ·have hm:R.getD j (0,[])∈R:=by simp[List.getD,k1]
    have Cx:=hf.left _ hm;have e:l9 R O=(bL O (R.getD j (0,[])).2,(R.getD j (0,[])).1):=k3;rw[e]at h h5⊢;simp only at h h5⊢;have hlen:(R.getD j (0,[])).1.toNat<O.length:=by rw[hO.len];omega
    by_cases kJ:(R.getD j (0,[])).1.toNat=n
    ·subst kJ
     rw[Cw hlen];have cast:(((R.getD j (0,[])).1.toNat:Nat):Int)=(R.getD j (0,[])).1:=by omega
     rw[cast];refine zY (k:=(N-unset O)+1) (by omega) _ _ ?_;have hv:=k2.2;unfold bL at hv⊢;cases hs:fZ O (R.getD j (0,[])).2 with
     |none=>rw[hs]at hv;simp at hv
     |some s=>exact⟨_,hm,rfl,s,X7 hL (hf.name _ hm) hs,rfl⟩
    ·rw[getD_set_ne kJ]at h⊢
     exact zY (by omega) _ _ (hL n hn h)
theorem O8(hf:bM T N R){O:List Int}(h:nO N R O){j:Nat}(hj:j<R.length):
 nO N R (mh R j O)/\O6 O (mh R j O)/\(0<=bL O (R.getD j (0,[])).2->0<=(mh R j O).getD (R.getD j (0,[])).1.toNat 0/\(mh R j O).getD (R.getD j (0,[])).1.toNat 0<=bL O (R.getD j (0,[])).2):=by
 have hm:R.getD j (0,[])∈R:=by simp[List.getD,hj]
 have hL:=hf.left _ hm;have hlen:(R.getD j (0,[])).1.toNat<O.length:=by rw[h.len];omega
 have hr:=XZ (R:=R) h.some (hf.name _ hm);have hc:=O3 hf h.some hm;have cast:(((R.getD j (0,[])).1.toNat:Nat):Int)=(R.getD j (0,[])).1:=by omega
 have hneg:=h.neg _ (show (R.getD j (0,[])).1.toNat<N by omega);have hsome:=h.some _ (show (R.getD j (0,[])).1.toNat<N by omega);rw[cast]at hsome;unfold mh;obtain⟨x,hx⟩:∃x,O.getD (R.getD j (0,[])).1.toNat 0=x:=⟨_,rfl⟩;obtain⟨y,hy⟩:∃y,bL O (R.getD j (0,[])).2=y:=⟨_,rfl⟩;rw[hx]at hneg hsome⊢;rw[hy]at hr hc⊢
 have hz:(iA x y<0->iA x y= -1)/\(0<=iA x y->Can R (R.getD j (0,[])).1 (iA x y))/\(0<=x->0<=iA x y/\iA x y<=x)/\(0<=y->0<=iA x y/\iA x y<=y):=by
  unfold iA;by_cases h0:x= -1\/(y≠ -1/\y<x)
  ·rw[if_pos h0]
   exact⟨fun _=>by omega,hc,fun _=>by omega,fun _=>by omega⟩
  ·rw[if_neg h0]
   exact⟨hneg,hsome,fun _=>by omega,fun _=>by omega⟩
 obtain⟨z,hzz⟩:∃z,iA x y=z:=⟨_,rfl⟩;rw[hzz]at hz⊢;obtain⟨z1,z2,z3,z4⟩:=hz;refine⟨⟨by simp[h.len],fun n hn k=> ?_,fun n hn k=> ?_⟩,fun n hn k=> ?_,fun k=>by rw[Cw hlen];exact z4 k⟩
 ·by_cases kJ:(R.getD j (0,[])).1.toNat=n
  ·subst kJ
   rw[Cw hlen]at k⊢;exact z1 k
  ·rw[getD_set_ne kJ]at k⊢
   exact h.neg n hn k
 ·by_cases kJ:(R.getD j (0,[])).1.toNat=n
  ·subst kJ
   rw[Cw hlen]at k⊢;rw[cast];exact z2 k
  ·rw[getD_set_ne kJ]at k⊢
   exact h.some n hn k
 ·by_cases kJ:(R.getD j (0,[])).1.toNat=n
  ·subst kJ
   rw[Cw hlen];rw[hx]at hn⊢;exact z3 hn
  ·rw[getD_set_ne kJ]
   exact⟨hn,Int.le_refl _⟩
theorem qW.le{k:Nat}{O P:List Int}(hf:bM T N R)(hl:O.length=N)(h:qW R k O)(hle:O6 O P):qW R k P:=by
 intro n v hv;obtain⟨h1,h2⟩:=h n v hv
 have hn:n.toNat<O.length:=by
  cases k with
  |zero=>exact hv.elim
  |succ k=>
   obtain⟨r,hr,rfl,_⟩:=hv;have:=hf.left r hr;rw[hl];omega
 obtain⟨k1,k2⟩:=hle _ h1 hn;exact⟨k1,by omega⟩
theorem X9(hf:bM T N R){k:Nat}{O:List Int}(h:nO N R O)(hk:qW R k O):nO N R (Cv R O)/\qW R (k+1) (Cv R O):=by
 have main:=mR (n:=R.length) (f:=mh R) (x:=O)
  (fun m P=>nO N R P/\qW R k P/\∀i,i<m->∀s,nL (nM R k) (R.getD i (0,[])).2 s->0<=P.getD (R.getD i (0,[])).1.toNat 0/\P.getD (R.getD i (0,[])).1.toNat 0<=min s lid)
  ⟨h,hk,fun i hi=>absurd hi (Nat.not_lt_zero _)⟩
  (fun m hm P ⟨h1,h2,h3⟩=>by
    obtain⟨k1,k2,k3⟩:=O8 hf h1 hm;refine⟨k1,h2.le hf h1.len k2,fun i hi s hs=> ?_⟩;rcases Nat.lt_succ_iff_lt_or_eq.1 hi with hi|rfl
    ·obtain⟨a1,a2⟩:=h3 i hi s hs
     have JU:R.getD i (0,[])∈R:=by simp[List.getD,show i<R.length by omega]
     have:=hf.left _ JU;obtain⟨b1,b2⟩:=k2 _ a1 (by rw[h1.len];omega);exact⟨b1,by omega⟩
    ·have hsn:=Cu (fun n v h=>(zZ k n v h).1) hs
     rcases O4 (O:=P) (fun n v h=>(zZ k n v h).1) (fun n v _ hc _=>(h2 n v hc).2) hs with⟨s',a1,a2⟩|⟨n,v,_,a2,a3,_⟩
     ·have JU:R.getD i (0,[])∈R:=by simp[List.getD,hm]
      have hs':=(FH h1.some (hf.name _ JU) a1).2;have hv:bL P (R.getD i (0,[])).2=min s' lid:=by unfold bL;rw[a1]
      rw[hv]at k3;obtain⟨b1,b2⟩:=k3 (by unfold lid;omega);exact⟨b1,by omega⟩
     ·have:=(h2 n v a3).1
      omega)
 obtain⟨h1,_,h3⟩:=main;refine⟨h1,?_⟩;rintro n v ⟨r,hr,rfl,s,hs,rfl⟩;obtain⟨i,hi,rfl⟩:=List.getElem_of_mem hr;have e:R.getD i (0,[])=R[i]:=by simp[List.getD,hi]
 rw[<-e]at hs⊢;exact h3 i hi s hs
theorem O9(N:Nat)(R:List Ru):nO N R (List.replicate N (-1))/\qW R 0 (List.replicate N (-1)):=by
 refine⟨⟨by simp,fun n hn _=>by simp[List.getD,hn],fun n hn h=> ?_⟩,fun n v h=>h.elim⟩;simp[List.getD,hn]at h
theorem Ya(hf:bM T N R){O:List Int}(h:nO N R O)(hk:qW R N O):nN N R O:=by
 obtain⟨P,hP,hD⟩:=X8 hf N (List.replicate N (-1)) (by simpa using O7 (List.replicate N (-1))) (X6 N R) (fun n hn h=>by simp[List.getD,hn]at h)
 have key:∀(n:Nat) v,n<N->Can R n v->0<=O.getD n 0/\O.getD n 0<=v:=fun n v hn hv=>by
  by_cases hneg:P.getD n 0<0
  ·exact absurd hv ((hP.none n hn hneg).2 v)
  ·have h1:=(hP.some n hn (by omega)).2 v hv
   obtain⟨k1,k2⟩:=hk _ _ (hD n hn (by omega));simp only[Int.toNat_natCast]at k1 k2;exact⟨k1,by omega⟩
 exact⟨h.len,fun n hn hneg=>⟨h.neg n hn hneg,fun v hv=>by have:=(key n v hn hv).1;omega⟩,fun n hn h0=>⟨h.some n hn h0,fun v hv=>(key n v hn hv).2⟩⟩
end
end Go.Proofs.YtblkkhfdeaaidaaGreatDoor
namespace Go.Proofs.YtblkkhfdeaaidaaGreatDoor
open Go.RowKit
theorem Yb{w:World}{a b:Int}:Calls Tryz.prog 57 #[.int .i64 a,.int .i64 b] w fun e w'=>e= .returned (.int .i64 (iA a b))/\w'=w:=by
 by_cases ha:a= -1
 ·have HL:Hid (iA a b=b):=by show iA a b=b;unfold iA;rw[if_pos (.inl ha)]
  have e1:(a== -1)=true:=by simpa using ha
  clear ha
  go_enter Tryz.func57,Tryz.ntmps57
  go_wp2_with fail
  go_ret;exact⟨by rw[HL.out];rfl,rfl⟩
 ·have e1:(a== -1)=false:=by simpa using ha
  by_cases hb:b= -1
  ·have HL:Hid (iA a b=a):=by show iA a b=a;unfold iA;rw[if_neg (by omega)]
   have e2:(b != -1)=false:=by simpa using hb
   clear ha hb
   go_enter Tryz.func57,Tryz.ntmps57
   go_wp2_with fail
   go_ret;exact⟨by rw[HL.out];rfl,rfl⟩
  ·have e2:(b != -1)=true:=by simpa using hb
   by_cases hlt:b<a
   ·have HL:Hid (iA a b=b):=by show iA a b=b;unfold iA;rw[if_pos (.inr ⟨hb,hlt⟩)]
    clear ha hb
    go_enter Tryz.func57,Tryz.ntmps57
    go_wp2_with fail
    go_ret;exact⟨by rw[HL.out];rfl,rfl⟩
   ·have HL:Hid (iA a b=a):=by show iA a b=a;unfold iA;rw[if_neg (by omega)]
    have e3:decide (b<a)=false:=decide_eq_false hlt;clear ha hb
    go_enter Tryz.func57,Tryz.ntmps57
    go_wp2_with fail
    go_ret;exact⟨by rw[HL.out];rfl,rfl⟩
theorem Pb{O:List Int}:∀{l:List Sy} {s:Int},fZ O l=some s->0<=s:=by
 intro l
 induction l with
 |nil=>intro s h;simp only[fZ,Option.some.injEq]at h;omega
 |cons x l ih=>
  intro s h;obtain⟨b,n⟩:=x;cases b with
  |true=>
   simp only[fZ,Option.map_eq_some_iff]at h;obtain⟨u,h1,rfl⟩:=h;have:=ih h1;omega
  |false=>
   simp only[fZ]at h;split at h
   ·cases h
   ·simp only[Option.map_eq_some_iff]at h
    obtain⟨u,h1,rfl⟩:=h;have:=ih h1;omega
def sW(O:List Int)(l:List Sy)(k:Nat)(p:Int):Int:=match fZ O (l.drop k) with|none=> -1|some s=>min (p+s) lid
theorem Yc{O:List Int}{l:List Sy}{k:Nat}{p:Int}{t:Bool}{v:Int}(hk:k<l.length)(hs:l.getD k (false,0)=(t,v)):
 sW O l k p=if t then sW O l (k+1) (min (p+1) lid) else if O.getD v.toNat 0<0 then -1 else sW O l (k+1) (min (p+O.getD v.toNat 0) lid):=by
 have hd:l.drop k=(t,v)::l.drop (k+1):=by rw[List.drop_eq_getElem_cons hk,<-hs];simp[List.getD,hk]
 unfold sW;rw[hd];cases t with
 |true=>
  simp only[fZ,if_true];cases h:fZ O (l.drop (k+1)) with
  |none=>rfl
  |some s=>
   have:=Pb h;simp only[Option.map_some,lid];omega
 |false=>
  simp only[fZ,Bool.false_eq_true,if_false];by_cases hn:O.getD v.toNat 0<0
  ·rw[if_pos hn,if_pos hn]
  ·rw[if_neg hn,if_neg hn]
   cases h:fZ O (l.drop (k+1)) with
   |none=>rfl
   |some s=>
    have:=Pb h;simp only[Option.map_some,lid];omega
theorem Yd{w:World}{lim qc N:Nat}{qa:Option Addr}{ov:Value}{l:List Sy}{O:List Int}(hl:fq w lim qa l)(hlim:lim<=w.heap.size)(ho:aP w w.heap.size ov O)(hO:O.length=N)(hin:∀s∈l,s.1=false->0<=s.2/\s.2<(N:Int))
 (Pd:∀i,i<N->O.getD i 0<=lid) (hneg:∀i,i<N->O.getD i 0<0->O.getD i 0= -1) (h8:l.length<=8):
 Calls Tryz.prog 58 #[ov,.slice qa l.length qc] w fun e w'=>e= .returned (.int .i64 (bL O l))/\Below w.heap.size w w':=by
 obtain⟨oa,oc,hov⟩:=ho.1;subst hov;have HL:Hid (fq w lim qa l):=hl;have HO:Hid (aP w w.heap.size (.slice oa O.length oc) O):=ho;have HI:Hid (∀s∈l,s.1=false->0<=s.2/\s.2<(N:Int)):=hin;have Ye:Hid (∀i,i<N->O.getD i 0<=lid/\(O.getD i 0<0->O.getD i 0= -1)):=fun i hi=>⟨Pd i hi,hneg i hi⟩;clear hl ho hin Pd hneg
 go_enter Tryz.func58,Tryz.ntmps58
 go_wp2_with fail
 go_loopw [5,11] (fun s5 s11 wr=> ∃(k:Nat) (p:Int),s5= .int .i64 p/\s11= .int .i64 k/\k<=l.length/\0<=p/\p<=lid/\bL O l=sW O l k p/\Below w.heap.size w wr) (fun _ s _=>l.length-(intOf s).toNat)
 case atStart=>exact⟨0,0,rfl,rfl,Nat.zero_le _,Int.le_refl _,by simp[lid],by unfold bL sW;rw[List.drop_zero];cases fZ O l<;>simp,Below.refl _ _⟩
 case round=>
  obtain⟨k,p,rfl,rfl,hk,hp0,hp1,hS,hB⟩:=hrel;have HB:Hid (Below w.heap.size w wr):=hB;have hsz:=hB.size;by_cases hlt:k<l.length
  ·obtain⟨b',o',oO,hb',k3,k4⟩:=(HL.out.below (hB.mono hlim)) k hlt
   subst oO;have hmem:l.getD k (false,0)∈l:=by simp[List.getD,hlt]
   have hr:=HI.out _ hmem;obtain⟨⟨t,v⟩,hs⟩:∃x,l.getD k (false,0)=x:=⟨_,rfl⟩;have hS':=hS.trans (Yc hlt hs);rw[hs]at k3 k4 hr;have zX:wr.cell? ⟨b',o'+k*2+1,none⟩=some (.int .i64 v):=by rw[Nat.add_assoc];exact k4
   have j0:(0:Int)<=(k:Int):=Int.natCast_nonneg _;have j1:(k:Int)<(l.length:Int):=by omega
   have hk8:(k:Int)<=8:=by omega
   have hp2:p<=1000000000:=by unfold lid at hp1;omega
   have HS:Hid (bL O l=if t then sW O l (k+1) (min (p+1) lid) else if O.getD v.toNat 0<0 then -1 else sW O l (k+1) (min (p+O.getD v.toNat 0) lid)):=hS';clear hS hS' hs hmem k4;cases t with
   |true=>
    have hw:IntKind.i64.wrap (p+1)=p+1:=IntWalk.i64_in _ (by omega);have HA:Hid (Below w.heap.size w (wr.alloc (.cells #[.bool true,.int .i64 v] 116))):=HB.out.alloc hsz _;clear hB
    go_wp2_with fail
    go_roundw
    case rel=>exact⟨k+1,min (p+1) lid,by simp[lid],by go_num,by omega,by unfold lid;omega,by unfold lid;omega,by simpa using HS.out,HA.out⟩
    case measure=>simp[intOf];omega
   |false=>
    have hr':0<=v/\v<(N:Int):=hr rfl;clear hr;obtain⟨y,rfl⟩:∃y:Nat,v=y:=⟨v.toNat,by omega⟩;obtain⟨ob,oo,oc',hoe,Aa,d0⟩:=HO.out.2 y (by omega);cases hoe;have d1:=(hB.cell (p:=⟨ob,oo+y,none⟩) Aa).trans d0;have hlv:=Ye.out y (by omega);have i0:(0:Int)<=(y:Int):=Int.natCast_nonneg _;have i1:(y:Int)<(O.length:Int):=by omega
    have HA:Hid (Below w.heap.size w (wr.alloc (.cells #[.bool false,.int .i64 y] 116))):=HB.out.alloc hsz _;have d2:(wr.alloc (.cells #[.bool false,.int .i64 y] 116)).cell? ⟨ob,oo+y,none⟩=some (.int .i64 (O.getD y 0)):=by rw[World.cell?_alloc_past _ _ _ (by show ob<wr.heap.size;omega)];exact d1
    simp only[Bool.false_eq_true,if_false,Int.toNat_natCast]at HS;obtain⟨x,hx⟩:∃x,O.getD y 0=x:=⟨_,rfl⟩;rw[hx]at d2 hlv HS;clear hx hr' d0 d1 hB;by_cases hneg:x<0
    ·have HR:Hid (bL O l= -1):=by
      have:=HS.out;rw[if_pos hneg]at this;exact this
     obtain rfl:x= -1:=hlv.2 hneg;clear hlv HS
     go_wp2_with fail
     go_ret;exact⟨by rw[HR.out];rfl,HA.out⟩
    ·have HX0:Hid (0<=x):=by show 0<=x;omega
     have hw:IntKind.i64.wrap (p+x)=p+x:=IntWalk.i64_in _ (by have:=hlv.1;unfold lid at this;omega);have e1:(x== -1)=false:=by simp;omega
     have HS2:Hid (bL O l=sW O l (k+1) (min (p+x) lid)):=by
      have:=HS.out;rw[if_neg hneg]at this;exact this
     clear HS hneg hlv
     go_wp2_with fail
     go_roundw
     case rel=>exact⟨k+1,min (p+x) lid,by simp[lid],by go_num,by omega,by have:=HX0.out;unfold lid;omega,by unfold lid;omega,HS2.out,HA.out⟩
     case measure=>simp[intOf];omega
  ·obtain rfl:k=l.length:=by omega
   have HR:Hid (bL O l=p):=by
    show bL O l=p;rw[hS];unfold sW;rw[List.drop_length];simp only[fZ];omega
   clear hS hB
   go_wp2_with fail
   go_ret;exact⟨by rw[HR.out];rfl,HB.out⟩
theorem Yf{T N:Nat}{R:List Ru}(h:aD T N R=true):bM T N R:=by
 obtain⟨_,h1,_,_,h5⟩:=fV h
 have mem:∀r∈R,0<=r.1/\r.1<(N:Int)/\∀s∈r.2,0<=s.2/\s.2<if s.1 then (T:Int) else (N:Int):=fun r hr=>by
  obtain⟨q,hq,rfl⟩:=List.getElem_of_mem hr;have e:R.getD q (0,[])=R[q]:=by simp[List.getD,hq]
  rw[<-e];exact⟨(h5 q hq).1,(h5 q hq).2.1,(h5 q hq).2.2.2⟩
 refine⟨fun r hr=>⟨(mem r hr).1,(mem r hr).2.1⟩,fun r hr s hs hb=> ?_,fun r hr s hs hb=> ?_,h1⟩
 ·have:=(mem r hr).2.2 s hs;rw[hb]at this;simpa using this
 ·have:=(mem r hr).2.2 s hs;rw[hb]at this;simpa using this
theorem nO.Yg{N:Nat}{R:List Ru}{O:List Int}(h:nO N R O)(i:Nat)(hi:i<N):O.getD i 0<=lid:=by
 by_cases h0:O.getD i 0<0
 ·unfold lid;omega
 ·exact(JR (h.some i hi (by omega))).2
structure sZ(w w1:World)(N:Nat)(O:List Int)(wr:World):Prop where
 below:Below w1.heap.size w1 wr
 row:dR wr w1.heap.size w1.heap.size N O
theorem Yh{w:World}{T N:Nat}{rv:Value}{R:List Ru}(hr:au w w.heap.size rv R)(hm:aD T N R=true):
 Calls Tryz.prog 30 #[.agg #[.int .i64 T,.int .i64 N,rv]] w fun e w'=> ∃g O,e= .returned (.tuple #[.slice (some ⟨g,0,none⟩) N N,.int .i64 0])/\Below w.heap.size w w'/\dR w' w.heap.size g N O/\nN N R O:=by
 obtain⟨hT,hN1,hN,hRl,nP⟩:=fV hm;have HF:Hid (bM T N R):=Yf hm;have HR:Hid (au w w.heap.size rv R):=hr;have HQ:Hid (∀q,q<R.length->(R.getD q (0,[])).2.length<=8):=fun q hq=>(nP q hq).2.2.1;obtain⟨ra,rc,aG⟩:=hr.1;subst aG;have may:=lm (T:=T) (N:=N) (hr.boxed (.cells #[.int .i64 T,.int .i64 N,.slice ra R.length rc] 26));rw[hm]at may;simp only[World.size_alloc]at may;have wK:=OW N (by omega);clear hr hm nP
 go_enter Tryz.func30,Tryz.ntmps30
 go_wp2_with
  (go_at_call 49;refine may.mono ?_;rintro e w1 ⟨rfl,hB1⟩
   have b1:w1.cell? ⟨w.heap.size,1,none⟩=some (.int .i64 N):=(hB1.cell (by simp)).trans (by simp[go_sem]);have b2:w1.cell? ⟨w.heap.size,2,none⟩=some (.slice ra R.length rc):=(hB1.cell (by simp)).trans (by simp[go_sem]);have hs1:w.heap.size+1<=w1.heap.size:=by have:=hB1.size;simpa using this
   have HX:Hid (Below w.heap.size w w1):=((Below.refl _ _).alloc (Nat.le_refl _) _).trans (hB1.mono (by simp))
   clear hB1 may)
 have Pe:Hid (sZ w w1 N (List.replicate N 0) (w1.alloc (.cells (madeCells #[.int .i64 0] N) 3))):=⟨(Below.refl _ _).alloc (Nat.le_refl _) _,OX w1 (by unfold maxLen;omega)⟩
 have qX:Hid (∀wr,Below w1.heap.size w1 wr->Below w.heap.size w wr/\wr.cell? ⟨w.heap.size,1,none⟩=some (.int .i64 N)/\wr.cell? ⟨w.heap.size,2,none⟩=some (.slice ra R.length rc)/\w1.heap.size<=wr.heap.size):=fun wr hB=>
  ⟨HX.out.trans (hB.mono (by omega)),(hB.cell (by simp;omega)).trans b1,(hB.cell (by simp;omega)).trans b2,hB.size⟩
 clear wK b1 b2
 go_loopw [16] (fun s wr=> ∃k:Nat,s= .int .i64 k/\k<=N/\sZ w w1 N (List.replicate k (-1)++List.replicate (N-k) 0) wr) (fun s _=>N-(intOf s).toNat)
 case atStart=>exact⟨0,rfl,Nat.zero_le _,by simpa using Pe.out⟩
 case round=>
  clear Pe;obtain⟨k,rfl,hk,hS⟩:=hrel;have HS:Hid (sZ w w1 N (List.replicate k (-1)++List.replicate (N-k) 0) wr):=hS;by_cases hlt:k<N
  ·obtain⟨c1,c2⟩:=hS.row.cell hlt
   have i0:(0:Int)<=(k:Int):=Int.natCast_nonneg _;have i1:(k:Int)<(N:Int):=by omega
   have HE:Hid ((List.replicate k (-1:Int)++List.replicate (N-k) 0).set k (-1)=List.replicate (k+1) (-1)++List.replicate (N-(k+1)) 0):=by
    show (List.replicate k (-1:Int)++List.replicate (N-k) 0).set k (-1)=_;obtain⟨d,hd⟩:∃d,N-k=d+1:=⟨N-k-1,by omega⟩;rw[hd,show N-(k+1)=d by omega,List.set_append_right _ _ (by simp),List.length_replicate,Nat.sub_self,List.replicate_succ (n:=d),List.set_cons_zero,List.replicate_succ' (n:=k)];simp
   obtain⟨x,hx⟩:∃x,(List.replicate k (-1:Int)++List.replicate (N-k) 0).getD k 0=x:=⟨_,rfl⟩;rw[hx]at c1;clear hS hx
   go_wp2_with fail
   go_roundw
   case rel=>exact⟨k+1,by go_num,by omega,HS.out.below.setCell (by simp) _,by rw[<-HE.out];exact HS.out.row.set k (-1)⟩
   case measure=>simp[intOf];omega
  ·obtain rfl:k=N:=by omega
   have h1:sZ w w1 k (List.replicate k (-1)) wr:=by simpa using hS
   have qp:Hid (sZ w w1 k (List.replicate k (-1)) wr):=h1;obtain⟨_,b1,b2,_⟩:=qX.out wr h1.below;clear hS HS h1
   go_wp2_with fail
   clear b1 b2
   go_loopw [25] (fun s wq=> ∃(m:Nat) (O:List Int),s= .int .i64 m/\m<=k/\nO k R O/\qW R m O/\sZ w w1 k O wq) (fun s _=>k-(intOf s).toNat)
   case atStart=>exact⟨0,List.replicate k (-1),rfl,Nat.zero_le _,(O9 k R).1,(O9 k R).2,qp.out⟩
   case round=>
    clear qp;obtain⟨m,O,rfl,hm,uQ,Pf,hS⟩:=hrel;have JV:Hid (nO k R O):=uQ;have Pg:Hid (qW R m O):=Pf;have HS:Hid (sZ w w1 k O wr):=hS;obtain⟨_,_,b2,_⟩:=qX.out wr hS.below;clear uQ Pf hS;by_cases hlt2:m<k
    ·go_wp2_with fail
     clear b2
     go_loopw [30] (fun s wq=> ∃j:Nat,s= .int .i64 j/\j<=R.length/\nO k R (aK j (mh R) O)/\sZ w w1 k (aK j (mh R) O) wq) (fun s _=>R.length-(intOf s).toNat)
     case atStart=>exact⟨0,rfl,Nat.zero_le _,JV.out,HS.out⟩
     case round=>
      clear HS;obtain⟨j,rfl,hj,uQ,hS⟩:=hrel;by_cases hlt3:j<R.length
      ·have hstep:aK (j+1) (mh R) O=mh R j (aK j (mh R) O):=rfl
       have hnext:=(O8 HF.out uQ hlt3).1;rw[<-hstep]at hnext;obtain⟨P,hP⟩:∃P,aK j (mh R) O=P:=⟨_,rfl⟩;rw[hP]at hstep uQ hS;have Cy:Hid (nO k R (aK (j+1) (mh R) O)):=hnext;have HS:Hid (sZ w w1 k P wr):=hS;have hmem:R.getD j (0,[])∈R:=by simp[List.getD,hlt3]
       have hL:=HF.out.left _ hmem;have hin:=HF.out.name _ hmem;have h8:=HQ.out j hlt3;obtain⟨hBw,_,_,hsz⟩:=qX.out wr hS.below;obtain⟨rb,ro,rc',qa,qc,hv,hb,k1,k2,hqc,k3⟩:=(HR.out.below hBw).2 j hlt3;cases hv;unfold mh at hstep;obtain⟨⟨L,Rt⟩,hre⟩:∃x,R.getD j (0,[])=x:=⟨_,rfl⟩;rw[hre]at k1 k2 k3 hqc hL hin h8 hstep;simp only at k1 k2 k3 hqc hL hin h8 hstep;obtain⟨l,rfl⟩:∃l:Nat,L=l:=⟨L.toNat,by omega⟩;simp only[Int.toNat_natCast]at hstep;have Cz:l<k:=by omega
       have k2':wr.cell? ⟨rb,ro+j*2+1,none⟩=some (.slice qa Rt.length qc):=by rw[Nat.add_assoc];exact k2
       obtain⟨c1,c2⟩:=hS.row.cell Cz;have hgl:=World.block_lt_of_cell? wr _ c1;simp only at hgl;obtain⟨W,hW⟩:∃W,W=wr.alloc (.cells #[.int .i64 l,.slice qa Rt.length qc] 91):=⟨_,rfl⟩;have hBW:Below wr.heap.size wr W:=by rw[hW];exact(Below.refl _ _).alloc (Nat.le_refl _) _
       have c1':W.cell? ⟨w1.heap.size,l,none⟩=some (.int .i64 (P.getD l 0)):=(hBW.cell (by simpa using hgl)).trans c1;have q0:W.cell? ⟨wr.heap.size,0,none⟩=some (.int .i64 l):=by rw[hW];simp[go_sem]
       have q1:W.cell? ⟨wr.heap.size,1,none⟩=some (.slice qa Rt.length qc):=by rw[hW];simp[go_sem]
       have FI:dR W w1.heap.size w1.heap.size k P:=hS.row.below hBW;have hWs:wr.heap.size<W.heap.size:=by rw[hW];simp
       have hgW:w1.heap.size<W.heap.size:=by omega
       have hne:w1.heap.size≠wr.heap.size:=by omega
       have hne':wr.heap.size≠w1.heap.size:=by omega
       have i0:(0:Int)<=(j:Int):=Int.natCast_nonneg _;have i1:(j:Int)<(R.length:Int):=by omega
       have i2:(0:Int)<=(l:Int):=Int.natCast_nonneg _;have i3:(l:Int)<(k:Int):=by omega
       have call:=Yd (w:=W.drew) (lim:=w.heap.size) (qc:=qc) (N:=k) (O:=P) (fq.below (w:=wr) k3 ((hBW.drew).mono (by omega))) (by show w.heap.size<=W.heap.size;omega) (show aP W.drew W.drew.heap.size _ P from FI.list) FI.len hin (fun i hi=>uQ.Yg i hi) uQ.neg h8;have jU:Hid (aK (j+1) (mh R) O=P.set l (iA (P.getD l 0) (bL P Rt))):=hstep;have CB:Hid (dR W w1.heap.size w1.heap.size k P):=FI;have Ab:Hid (Below wr.heap.size wr W):=hBW;obtain⟨x,hx⟩:∃x,P.getD l 0=x:=⟨_,rfl⟩;obtain⟨y,hy⟩:∃y,bL P Rt=y:=⟨_,rfl⟩;rw[hx]at c1' jU;rw[hy]at jU call;clear hx hy hstep hre hP hnext k3 hqc hin hmem hBw FI c1 hS uQ h8 k2 hBW
       go_upto_region 14 with fail
       rw[<-hW];clear hW;refine Xl 11 14 (fun w'=>w'.cell? ⟨wr.heap.size,0,none⟩=some (.int .i64 l)/\w'.cell? ⟨wr.heap.size,1,none⟩=some (.slice qa Rt.length qc)/\w'.cell? ⟨w1.heap.size,l,none⟩=some (.int .i64 x)) (by kernel_rfl) (by kernel_rfl) ⟨q0,q1,c1'⟩ ?_;simp only[List.take_succ_cons,List.take_zero,List.drop_succ_cons,List.drop_zero]
       iterate 11
        refine sP.cons (v:= ?_) (by rfl) ?_ ?_;rotate_left
        ·intro w' hSw
         obtain⟨s0,s1,s2⟩:=hSw
         go_simp
         try with_reducible rfl
        simp only[Act.put,List.setIfInBounds_toArray,List.set_cons_zero,List.set_cons_succ]
       rw[sP,uH];intro K hK
       go_simp
       go_wp2_with
        (go_at_call 58;refine call.mono ?_;rintro e w2 ⟨rfl,hB2⟩
         have d3:=(hB2.cell (p:=⟨wr.heap.size,1,none⟩) hWs).trans q1;have d0:=(hB2.cell (p:=⟨wr.heap.size,0,none⟩) hWs).trans q0;have d1:=(hB2.cell (p:=⟨w1.heap.size,l,none⟩) hgW).trans c1';have JW:dR w2 w1.heap.size w1.heap.size k P:=dR.below (w:=W.drew) CB.out hB2;have d2:=(JW.cell Cz).2;have HB2:Hid (Below w1.heap.size w1 w2):=HS.out.below.trans ((Ab.out.trans (((Below.refl _ _).drew.trans hB2).mono (by show wr.heap.size<=W.heap.size;omega))).mono hsz);have HR2:Hid (dR w2 w1.heap.size w1.heap.size k P):=JW
         clear hB2 JW)
       refine hK.out _ _ (fun _=>⟨d0,d3,d1⟩) ?_;clear hK;rw[uH];intro K hK
       go_simp
       go_wp2_with (go_at_call 57;refine Yb.mono ?_;rintro e w3 ⟨rfl,rfl⟩)
       refine hK.out _ _ (fun _=>⟨d0,d3,d1⟩) ?_;clear hK;rw[uH];intro K hK
       go_simp
       refine hK.out _ _ (fun _=>⟨d0,d3,d1⟩) ?_;clear hK;rw[uH];intro K hK
       go_simp
       refine hK.out _ _ (fun h=>absurd h (by omega)) ?_;clear hK;rw[uH];refine NoPanic.normal ?_
       go_wp2_with fail
       go_roundw
       case rel=>exact⟨j+1,by go_num,by omega,Cy.out,HB2.out.setCell (by simp) _,by rw[jU.out];exact HR2.out.set l _⟩
       case measure=>simp[intOf];omega
      ·obtain rfl:j=R.length:=by omega
       have HS2:Hid (sZ w w1 k (Cv R O) wr):=hS;have Ph:Hid (nO k R (Cv R O)/\qW R (m+1) (Cv R O)):=X9 HF.out JV.out Pg.out;clear hS uQ
       go_wp2_with fail
       go_roundw
       case rel=>exact⟨m+1,_,by go_num,by omega,Ph.out.1,Ph.out.2,HS2.out⟩
       case measure=>simp[intOf];omega
    ·obtain rfl:m=k:=by omega
     have HD:Hid (nN m R O):=Ya HF.out JV.out Pg.out;have jk:Hid (Below w.heap.size w wr):=(qX.out wr HS.out.below).1
     go_wp2_with fail
     refine bodyPost_ret (v:= .tuple #[.slice (some ⟨w1.heap.size,0,none⟩) m m,.int .i64 0]) (by simp[results,Tryz.results30,go_sem]) rfl ⟨w1.heap.size,O,rfl,jk.out,HS.out.row.mono (by omega),HD.out⟩
theorem qY{w:World}{b i:Nat}{cs:Array Value}{ty:TypeId}{f:Nat×Nat}{u:Value}(h:w.heap[b]?=some (.cells cs ty f))(hu:cs[i]?=some u):w.cell? ⟨b,i,none⟩=some u:=by
 unfold World.cell?;simp[h,hu]
theorem aO.Ac{P:Program}{ops:Array Oper}{S:World->Prop}{K:Act->Prop}{i:Nat}{o:Oper}{l:List Nat}{a:Act}{v:Value}(ho:ops.toList[i]?=some o)(hw:Region.wanted o (yielded ops a.tmps)=true)(hy:∀w,S w->(execOp a.eval o).run P w= .ok (.value v) w)(h:aO P ops S K l (a.put o.dst v)):aO P ops S K (i::l) a:=
 aO.cons (by simpa using ho) hw hy h
def kK(S:List (List UInt8)):List Value:=S.map fun l=> .string ⟨l.toArray⟩
theorem Yi{S:List (List UInt8)}{k:Nat}(h:k<S.length):(kK S).toArray[k]?=some (.string ⟨S[k].toArray⟩):=by simp[kK,h]
section
variable{w:World}{B b sb:Nat}{S:List (List UInt8)}{acc:List UInt8}
theorem FJ(hI:Lib.IsBuilderF 32 5 B b (Lib.byteCells acc) w)(hsb:w.heap[sb]?=some (.cells (kK S).toArray 9 (0,0)))(hne:sb≠b)(hBw:B<=w.heap.size)(hlen:acc.length+S.flatten.length<=1000000)(hSl:S.length<=1000):
 Calls Tryz.prog 63 #[.slice (some ⟨sb,0,none⟩) S.length S.length,.pointer (some ⟨b,0,none⟩)] w fun e w'=>e= .returned (.tuple #[])/\Lib.IsBuilderF 32 5 B b (Lib.byteCells (acc++S.flatten)) w'/\Below B w w'/\Lib.OthersKept 5 (some b) w w':=by
 have HI:Hid (Lib.IsBuilderF 32 5 B b (Lib.byteCells acc) w):=hI;have Yj:Hid (∀wq,Lib.OthersKept 5 (some b) w wq->wq.heap[sb]?=some (.cells (kK S).toArray 9 (0,0))):=fun wq hq=>hq sb _ hsb (fun e=>hne (Option.some.inj e)) (fun _ _ e=>by cases e);have HL:Hid (acc.length+S.flatten.length<=1000000/\B<=w.heap.size):=⟨hlen,hBw⟩;clear hI hsb hne hBw hlen
 go_enter Tryz.func63,Tryz.ntmps63
 go_wp2_with fail
 go_loopw [7] (fun s7 wr=> ∃k:Nat,s7= .int .i64 k/\k<=S.length/\Lib.IsBuilderF 32 5 B b (Lib.byteCells (acc++(S.take k).flatten)) wr/\Below B w wr/\Lib.OthersKept 5 (some b) w wr) (fun s _=>S.length-(intOf s).toNat)
 case atStart=>exact⟨0,rfl,Nat.zero_le _,by rw[List.take_zero,List.flatten_nil,List.append_nil];exact HI.out,Below.refl _ _,Lib.OthersKept.refl _ _ _⟩
 case round=>
  obtain⟨k,rfl,hk,hI,hB,hO⟩:=hrel;have HR:Hid (Lib.IsBuilderF 32 5 B b (Lib.byteCells (acc++(S.take k).flatten)) wr/\Below B w wr/\Lib.OthersKept 5 (some b) w wr):=⟨hI,hB,hO⟩;have hcell:=Yj.out wr hO;clear hI hB hO;by_cases hlt:k<S.length
  ·have c1:wr.cell? ⟨sb,k,none⟩=some (.string ⟨S[k].toArray⟩):=qY hcell (Yi hlt)
   have hsum:(S.take (k+1)).flatten=(S.take k).flatten++S[k]:=by rw[List.take_succ_eq_append_getElem hlt,List.flatten_append];simp
   have hle:(S.take (k+1)).flatten.length<=S.flatten.length:=by
    have e:S.flatten=(S.take (k+1)).flatten++(S.drop (k+1)).flatten:=by rw[<-List.flatten_append,List.take_append_drop]
    rw[e,List.length_append];omega
   obtain⟨x,hx⟩:∃x,S[k]=x:=⟨_,rfl⟩;rw[hx]at c1 hsum;have hsz:(⟨x.toArray⟩:ByteArray).size=x.length:=by simp[ByteArray.size]
   have JX:=WQ B b _ ⟨x.toArray⟩ wr HR.out.1 (by rw[Lib.byteCells_length,hsz,List.length_append];rw[hsum,List.length_append]at hle;have:=HL.out.1;omega) (Nat.le_trans HL.out.2 HR.out.2.1.size);have HS:Hid ((S.take (k+1)).flatten=(S.take k).flatten++x):=hsum;obtain⟨xs,hxs⟩:∃z,(⟨x.toArray⟩:ByteArray)=z:=⟨_,rfl⟩
   have HX:Hid (Lib.strCells xs=Lib.byteCells x):=by
    show Lib.strCells xs=_;rw[<-hxs,Lib.strCells_eq]
   rw[hxs]at c1 JX;have i0:(0:Int)<=(k:Int):=Int.natCast_nonneg _;have i1:(k:Int)<(S.length:Int):=by omega
   clear hcell hsum hle hx hsz hxs
   go_wp2_with
    (go_at_call 7;refine JX.mono ?_;rintro e w2 ⟨rfl,h1,h2,h3⟩
     have HW:Hid (Lib.BuilderAtF 32 5 B b (.pointer (some ⟨b,0,none⟩)) (Lib.byteCells (acc++(S.take k).flatten)++Lib.strCells xs) w2/\Below B wr w2/\Lib.OthersKept 5 (some b) wr w2):=⟨h1,h2,h3⟩
     clear JX h1 h2 h3)
   go_roundw
   case rel=>
    refine⟨k+1,by go_num,by omega,?_,HR.out.2.1.trans HW.out.2.1,HR.out.2.2.trans HW.out.2.2⟩;have h1:=HW.out.1;rw[HX.out,<-Lib.byteCells_append]at h1;rw[HS.out,<-List.append_assoc];exact .inr h1
   case measure=>simp[intOf];omega
  ·have hkk:k=S.length:=by omega
   clear hcell
   go_wp2_with fail
   go_end0
   refine⟨rfl,?_,HR.out.2⟩;have h1:=HR.out.1;rw[hkk,List.take_length]at h1;exact h1
end
theorem Yk{w:World}{t:Bool}{v:Int}:Calls Tryz.prog 64 #[.agg #[.bool t,.int .i64 v]] w fun e w'=>e= .returned (.string ⟨[if t then 116 else 110].toArray⟩)/\Below w.heap.size w w':=by
 have HB:Hid (Below w.heap.size w (w.alloc (.cells #[.bool t,.int .i64 v] 116))):=(Below.refl _ _).alloc (Nat.le_refl _) _;cases t with
 |true=>
  go_enter Tryz.func64,Tryz.ntmps64
  go_wp2_with fail
  go_ret;exact⟨rfl,HB.out⟩
 |false=>
  go_enter Tryz.func64,Tryz.ntmps64
  go_wp2_with fail
  go_ret;exact⟨rfl,HB.out⟩
end Go.Proofs.YtblkkhfdeaaidaaGreatDoor
