import Derived.Test.YtpkmpkphfflpjaaGreatMem8AndDerMath
import Derived.Test.YtpkmpkphfflpjaaGreatMathAndHeldSeq
import Derived.Deep.DeepCutAuto
set_option maxHeartbeats 3200000
set_option maxRecDepth 100000
namespace Go.Proofs.YtpkmpkphfflpjaaGreat
def jm(A:Int->List Int->List Int->Prop):List Sy->List Int->List Int->Prop
 | [],d,Z=>d=[]/\Z=[]
 |(true,v)::l,d,Z=> ∃Z',Z=v::Z'/\jm A l d Z'
 |(false,n)::l,d,Z=> ∃d1 d2 Z1 Z2,d=d1++d2/\Z=Z1++Z2/\A n d1 Z1/\jm A l d2 Z2
def kN(R:List Ru):Nat->Int->List Int->List Int->Prop
 |0,_,_,_=>False
 |k+1,n,d,Z=> ∃q:Nat,q<R.length/\(R.getD q (0,[])).1=n/\∃d',d=(q:Int)::d'/\jm (kN R k) (R.getD q (0,[])).2 d' Z
def jf(R:List Ru)(n:Int)(d Z:List Int):Prop:=∃k,kN R k n d Z
theorem jm.mono{A B:Int->List Int->List Int->Prop}(h:∀n d Z,A n d Z->B n d Z):∀{l:List Sy} {d Z:List Int},jm A l d Z->jm B l d Z:=by
 intro l
 induction l with
 |nil=>intro d Z hZ;exact hZ
 |cons s l ih=>
  intro d Z hZ;obtain⟨b,n⟩:=s;cases b with
  |true=>obtain⟨Z',h1,h2⟩:=hZ;exact⟨Z',h1,ih h2⟩
  |false=>obtain⟨d1,d2,Z1,Z2,h1,h2,h3,h4⟩:=hZ;exact⟨d1,d2,Z1,Z2,h1,h2,h _ _ _ h3,ih h4⟩
theorem XM{R:List Ru}:∀k n d Z,kN R k n d Z->kN R (k+1) n d Z:=by
 intro k
 induction k with
 |zero=>intro n d Z h;exact h.elim
 |succ k ih=>
  rintro n d Z ⟨q,h1,h2,d',h3,h4⟩;exact⟨q,h1,h2,d',h3,h4.mono ih⟩
theorem PS{R:List Ru}{k m:Nat}(h:k<=m):∀n d Z,kN R k n d Z->kN R m n d Z:=by
 induction h with
 |refl=>intro n d Z h;exact h
 |step _ ih=>intro n d Z h;exact XM _ _ _ _ (ih n d Z h)
theorem XO{R:List Ru}:∀{l:List Sy} {d Z:List Int},jm (jf R) l d Z->∃k,jm (kN R k) l d Z:=by
 intro l
 induction l with
 |nil=>intro d Z h;exact⟨0,h⟩
 |cons s l ih=>
  intro d Z h;obtain⟨b,n⟩:=s;cases b with
  |true=>
   obtain⟨Z',h1,h2⟩:=h;obtain⟨k,hk⟩:=ih h2;exact⟨k,Z',h1,hk⟩
  |false=>
   obtain⟨d1,d2,Z1,Z2,h1,h2,⟨m,h3⟩,h4⟩:=h;obtain⟨k,hk⟩:=ih h4;exact⟨max m k,d1,d2,Z1,Z2,h1,h2,PS (Nat.le_max_left _ _) _ _ _ h3,hk.mono (PS (Nat.le_max_right _ _))⟩
theorem Ku{R:List Ru}{q:Nat}(hq:q<R.length){d Z:List Int}(h:jm (jf R) (R.getD q (0,[])).2 d Z):jf R (R.getD q (0,[])).1 ((q:Int)::d) Z:=by
 obtain⟨k,hk⟩:=XO h;exact⟨k+1,q,hq,rfl,d,rfl,hk⟩
theorem XP{A:Int->List Int->List Int->Prop}:∀{l m:List Sy} {d d' Z Z':List Int},jm A l d Z->jm A m d' Z'->jm A (l++m) (d++d') (Z++Z'):=by
 intro l
 induction l with
 |nil=>rintro m d d' Z Z' ⟨rfl,rfl⟩ h';exact h'
 |cons s l ih=>
  intro m d d' Z Z' h h';obtain⟨b,n⟩:=s;cases b with
  |true=>obtain⟨Y,rfl,h2⟩:=h;exact⟨Y++Z',rfl,ih h2 h'⟩
  |false=>
   obtain⟨d1,d2,Z1,Z2,rfl,rfl,h3,h4⟩:=h;exact⟨d1,d2++d',Z1,Z2++Z',by rw[List.append_assoc],by rw[List.append_assoc],h3,ih h4 h'⟩
theorem XQ{R:List Ru}:∀k n d Z,kN R k n d Z->Ai R k n Z:=by
 intro k
 induction k with
 |zero=>intro n d Z h;exact h.elim
 |succ k ih=>
  rintro n d Z ⟨q,hq,hL,d',_,hs⟩;refine⟨R.getD q (0,[]),by simp[List.getD,hq],hL,?_⟩
  have main:∀(l:List Sy) (d Z:List Int),jm (kN R k) l d Z->wL (Ai R k) l Z:=by
   intro l
   induction l with
   |nil=>rintro d Z ⟨_,h⟩;exact h
   |cons s l ihl=>
    intro d Z h;obtain⟨b,v⟩:=s;cases b with
    |true=>obtain⟨Z',h1,h2⟩:=h;exact⟨Z',h1,ihl _ _ h2⟩
    |false=>obtain⟨d1,d2,Z1,Z2,_,h2,h3,h4⟩:=h;exact⟨Z1,Z2,h2,ih _ _ _ h3,ihl _ _ h4⟩
  exact main _ _ _ hs
theorem XR{R:List Ru}:∀k n Z,Ai R k n Z->∃d,kN R k n d Z:=by
 intro k
 induction k with
 |zero=>intro n Z h;exact h.elim
 |succ k ih=>
  rintro n Z ⟨r,hr,hL,hs⟩
  have main:∀(l:List Sy) (Z:List Int),wL (Ai R k) l Z->∃d,jm (kN R k) l d Z:=by
   intro l
   induction l with
   |nil=>intro Z h;exact⟨[],rfl,h⟩
   |cons s l ihl=>
    intro Z h;obtain⟨b,v⟩:=s;cases b with
    |true=>obtain⟨Z',h1,h2⟩:=h;obtain⟨d,hd⟩:=ihl _ h2;exact⟨d,Z',h1,hd⟩
    |false=>
     obtain⟨Z1,Z2,h1,h2,h3⟩:=h;obtain⟨d1,hd1⟩:=ih _ _ h2;obtain⟨d2,hd2⟩:=ihl _ h3;exact⟨d1++d2,d1,d2,Z1,Z2,rfl,h1,hd1,hd2⟩
  obtain⟨q,hq,hqe⟩:=List.getElem_of_mem hr;have hg:R.getD q (0,[])=r:=by simp[List.getD,hq,hqe]
  obtain⟨d,hd⟩:=main _ _ hs;exact⟨(q:Int)::d,q,hq,by rw[hg];exact hL,d,rfl,by rw[hg];exact hd⟩
theorem Aj{R:List Ru}{n:Int}{Z:List Int}:wM R n Z↔∃d,jf R n d Z:=
 ⟨fun⟨k,h⟩=>by obtain⟨d,hd⟩:=XR k n Z h;exact⟨d,k,hd⟩,fun⟨d,k,h⟩=>⟨k,XQ k n d Z h⟩⟩
section
variable{R:List Ru}{D:List Int}
theorem XT{f:Int->St->Option St}(hF:∀n st st',f n st=some st'->∃d Z,st'.pos=st.pos+d.length/\D.drop st.pos=d++D.drop st'.pos/\st'.Y=st.Y++Z/\jf R n d Z):
 ∀(l:List Sy) (st st':St),fM f l st=some st'->∃d Z,st'.pos=st.pos+d.length/\D.drop st.pos=d++D.drop st'.pos/\st'.Y=st.Y++Z/\jm (jf R) l d Z:=by
 intro l
 induction l with
 |nil=>
  intro st st' h;simp only[fM,Option.some.injEq]at h;subst h;exact⟨[],[],by simp,by simp,by simp,rfl,rfl⟩
 |cons s l ih=>
  intro st st' h;obtain⟨b,v⟩:=s;cases b with
  |true=>
   simp only[fM]at h;obtain⟨d,Z,h1,h2,h3,h4⟩:=ih _ _ h;exact⟨d,v::Z,h1,h2,by rw[h3];simp,Z,rfl,h4⟩
  |false=>
   simp only[fM]at h;split at h
   ·cases h
   ·rename_i st1 h1
    obtain⟨d1,Z1,a1,a2,a3,a4⟩:=hF _ _ _ h1;obtain⟨d2,Z2,b1,b2,b3,b4⟩:=ih _ _ h;exact⟨d1++d2,Z1++Z2,by rw[b1,a1];simp;omega,by rw[a2,b2,List.append_assoc],by rw[b3,a3,List.append_assoc],d1,d2,Z1,Z2,rfl,rfl,a4,b4⟩
theorem XU:∀(k:Nat) (n:Int) (st st':St),fq R D k n st=some st'->∃d Z,st'.pos=st.pos+d.length/\D.drop st.pos=d++D.drop st'.pos/\st'.Y=st.Y++Z/\jf R n d Z:=by
 intro k
 induction k with
 |zero=>intro n st st' h;cases h
 |succ k ih=>
  intro n st st' h;rw[fq]at h;split at h
  ·cases h
  ·rename_i q hq
   obtain⟨wN,Kv,hL⟩:=Ke hq;split at h
   ·cases h
   ·rename_i st1 h1
    simp only[Option.some.injEq]at h;subst h;obtain⟨d,Z,a1,a2,a3,a4⟩:=XT ih _ _ _ h1;simp only at a1 a2 a3
    have hlt:st.pos<D.length:=by
     rcases Nat.lt_or_ge st.pos D.length with h|h
     ·exact h
     ·rw[List.getElem?_eq_none h]at wN;cases wN
    have hge:D[st.pos]=(q:Int):=by
     rw[List.getElem?_eq_getElem hlt]at wN;exact Option.some.inj wN
    refine⟨(q:Int)::d,Z,by simp only[List.length_cons];omega,?_,a3,by rw[<-hL];exact Ku Kv a4⟩;simp only;rw[List.drop_eq_getElem_cons hlt,hge,a2];rfl
theorem CR{st:St}(h:jD R D=some st):jf R 0 D st.Y/\D.length<=400:=by
 unfold jD at h;split at h
 ·cases h
 ·split at h
  ·cases h
  ·rename_i st1 h1
   split at h
   ·cases h
   ·simp only[Option.some.injEq]at h
    subst h;obtain⟨d,Z,a1,a2,a3,a4⟩:=XU _ _ _ _ h1;simp only[Nat.zero_add,List.drop_zero,List.nil_append]at a1 a2 a3;have:D.drop st1.pos=[]:=List.drop_eq_nil_of_le (by omega);rw[this,List.append_nil]at a2;rw[a2,a3];exact⟨a4,by rw[<-a2];omega⟩
theorem XV{f:Int->St->Option St}{A:Int->List Int->List Int->Prop}{m:Nat}(hF:∀n d Z,A n d Z->d.length<=m->∀st E,D.drop st.pos=d++E->∃st',f n st=some st'/\st'.pos=st.pos+d.length/\st'.Y=st.Y++Z):
 ∀(l:List Sy) (d Z:List Int),jm A l d Z->d.length<=m->∀st E,D.drop st.pos=d++E->∃st',fM f l st=some st'/\st'.pos=st.pos+d.length/\st'.Y=st.Y++Z:=by
 intro l
 induction l with
 |nil=>
  rintro d Z ⟨rfl,rfl⟩ _ st E _;exact⟨st,rfl,by simp,by simp⟩
 |cons s l ih=>
  intro d Z h hm st E he;obtain⟨b,v⟩:=s;cases b with
  |true=>
   obtain⟨Z',rfl,h2⟩:=h;obtain⟨st',a1,a2,a3⟩:=ih d Z' h2 hm { st with Y:=st.Y++[v] } E he;exact⟨st',a1,a2,by rw[a3];simp⟩
  |false=>
   obtain⟨d1,d2,Z1,Z2,rfl,rfl,h3,h4⟩:=h;simp only[List.length_append]at hm;obtain⟨st1,a1,a2,a3⟩:=hF v d1 Z1 h3 (by omega) st (d2++E) (by rw[he,List.append_assoc])
   have he1:D.drop st1.pos=d2++E:=by
    rw[a2,<-List.drop_drop,he,List.append_assoc];simp
   obtain⟨st',b1,b2,b3⟩:=ih d2 Z2 h4 (by omega) st1 E he1;refine⟨st',?_,by rw[b2,a2];simp;omega,by rw[b3,a3,List.append_assoc]⟩;simp only[fM,a1];exact b1
theorem XW:∀(k:Nat) (n:Int) (d Z:List Int),kN R k n d Z->∀m,d.length<=m->∀st E,D.drop st.pos=d++E->∃st',fq R D m n st=some st'/\st'.pos=st.pos+d.length/\st'.Y=st.Y++Z:=by
 intro k
 induction k with
 |zero=>intro n d Z h;exact h.elim
 |succ k ih=>
  rintro n d Z ⟨q,hq,hL,d',rfl,hs⟩ m hm st E he;simp only[List.length_cons]at hm;obtain⟨m,rfl⟩:∃j,m=j+1:=⟨m-1,by omega⟩
  have hlt:st.pos<D.length:=by
   rcases Nat.lt_or_ge st.pos D.length with h|h
   ·exact h
   ·rw[List.drop_eq_nil_of_le h]at he;cases he
  rw[List.drop_eq_getElem_cons hlt]at he;simp only[List.cons_append,List.cons.injEq]at he
  have hn:lI R D n st.pos=some q:=by
   unfold lI;rw[List.getElem?_eq_getElem hlt,he.1];simp only;rw[if_pos ⟨by omega,by omega⟩];simp only[Int.toNat_natCast];rw[if_pos hL]
  obtain⟨st',a1,a2,a3⟩:=XV (f:=fq R D m) (A:=kN R k) (m:=m) (fun n d Z h hd st E he=>ih n d Z h m hd st E he) _ d' Z hs (by omega) { pos:=st.pos+1,Y:=st.Y,S:=st.S++[((q:Int),st.Y.length,0)] } E he.2;refine⟨{ st' with S:=st'.S.set st.S.length ((q:Int),st.Y.length,st'.Y.length) },?_,by simp only[List.length_cons];rw[a2];simp only;omega,a3⟩;rw[fq];simp only[hn,a1]
theorem XY{Z:List Int}(h:jf R 0 D Z)(hl:D.length<=400):∃st,jD R D=some st/\st.Y=Z:=by
 obtain⟨k,hk⟩:=h;obtain⟨st',a1,a2,a3⟩:=XW (D:=D) k 0 D Z hk D.length (Nat.le_refl _) { pos:=0,Y:=[],S:=[] } [] (by simp);refine⟨st',?_,by simpa using a3⟩;unfold jD;rw[if_neg (by omega)];simp only[a1];rw[if_neg (by simp only at a2;omega)]
end
inductive Fo where
 |no:Fo
 |nd:Nat->Fo->Fo->Fo
def ai:Fo->List Int
 | .no=>[]
 | .nd q ks ts=>(q:Int)::(ai ks++ai ts)
def aB:List Sy->List Int
 | []=>[]
 |(true,_)::l=>aB l
 |(false,n)::l=>n::aB l
def gQ:List Sy->List (List Int)->List Int
 | [],_=>[]
 |(true,v)::l,ys=>v::gQ l ys
 |(false,_)::l,ys=>ys.headD []++gQ l ys.tail
def okF(R:List Ru):Fo->List Int->Prop
 | .no,ns=>ns=[]
 | .nd q ks ts,ns=> ∃n ns',ns=n::ns'/\q<R.length/\(R.getD q (0,[])).1=n/\okF R ks (aB (R.getD q (0,[])).2)/\okF R ts ns'
def aI(R:List Ru):Fo->List (List Int)
 | .no=>[]
 | .nd q ks ts=>gQ (R.getD q (0,[])).2 (aI R ks)::aI R ts
section
variable{R:List Ru}
theorem Gc{t:Fo}(h:okF R t []):t= .no:=by
 cases t with
 |no=>rfl
 |nd q ks ts=>obtain⟨n,ns,e,_⟩:=h;cases e
theorem rV{t:Fo}{n:Int}{ns:List Int}(h:okF R t (n::ns)):∃q ks ts,t= .nd q ks ts/\q<R.length/\(R.getD q (0,[])).1=n/\okF R ks (aB (R.getD q (0,[])).2)/\okF R ts ns:=by
 cases t with
 |no=>cases h
 |nd q ks ts=>
  obtain⟨n',ns',e,h1,h2,h3,h4⟩:=h;injection e with e1 e2;subst e1 e2;exact⟨q,ks,ts,rfl,h1,h2,h3,h4⟩
theorem XZ:∀k n d Z,kN R k n d Z->∃q ks,q<R.length/\(R.getD q (0,[])).1=n/\okF R ks (aB (R.getD q (0,[])).2)/\(q:Int)::ai ks=d/\gQ (R.getD q (0,[])).2 (aI R ks)=Z:=by
 intro k
 induction k with
 |zero=>intro n d Z h;exact h.elim
 |succ k ih=>
  rintro n d Z ⟨q,hq,hL,d',rfl,hs⟩
  have:∀(l:List Sy) (d Z:List Int),jm (kN R k) l d Z->∃ts,okF R ts (aB l)/\ai ts=d/\gQ l (aI R ts)=Z:=by
   intro l
   induction l with
   |nil=>rintro d Z ⟨rfl,rfl⟩;exact⟨.no,rfl,rfl,rfl⟩
   |cons s l ihl=>
    intro d Z h;obtain⟨b,n⟩:=s;cases b with
    |true=>
     obtain⟨Z',rfl,h2⟩:=h;obtain⟨ts,h3,h4,h5⟩:=ihl _ _ h2;exact⟨ts,h3,h4,by rw[gQ,h5]⟩
    |false=>
     obtain⟨d1,d2,Z1,Z2,rfl,rfl,h3,h4⟩:=h;obtain⟨q,ks,t1,t2,t3,t4,t5⟩:=ih _ _ _ h3;obtain⟨ts,u1,u2,u3⟩:=ihl _ _ h4;refine⟨.nd q ks ts,⟨n,_,rfl,t1,t2,t3,u1⟩,by rw[ai,<-t4,u2];rfl,?_⟩;rw[gQ,aI,List.headD_cons,List.tail_cons,t5,u3]
  obtain⟨ts,h1,h2,h3⟩:=this _ _ _ hs;exact⟨q,ts,hq,hL,h1,by rw[h2],h3⟩
theorem X3:∀(t:Fo) (l:List Sy),okF R t (aB l)->jm (jf R) l (ai t) (gQ l (aI R t)):=by
 intro t
 induction t with
 |no=>
  intro l h
  induction l with
  |nil=>exact⟨rfl,rfl⟩
  |cons s l ih=>
   obtain⟨b,n⟩:=s;cases b with
   |true=>exact⟨_,rfl,ih h⟩
   |false=>cases h
 |nd q ks ts ihk pW=>
  intro l h
  induction l with
  |nil=>obtain⟨n,ns,e,_⟩:=h;cases e
  |cons s l ih=>
   obtain⟨b,n⟩:=s;cases b with
   |true=>exact⟨_,rfl,ih h⟩
   |false=>
    obtain⟨n',ns',e,h1,h2,h3,h4⟩:=h;injection e with e1 e2;subst e1 e2;rw[ai,gQ,aI,List.headD_cons,List.tail_cons];refine⟨(q:Int)::ai ks,ai ts,_,_,rfl,rfl,?_,pW l h4⟩;rw[<-h2];exact Ku h1 (ihk _ h3)
theorem tT{n:Int}{d Z:List Int}:jf R n d Z↔∃t,okF R t [n]/\ai t=d/\aI R t=[Z]:=by
 constructor
 ·rintro ⟨k,h⟩
  obtain⟨q,ks,h1,h2,h3,h4,h5⟩:=XZ k n d Z h;exact⟨.nd q ks .no,⟨n,[],rfl,h1,h2,h3,rfl⟩,by rw[ai,ai,List.append_nil];exact h4,by rw[aI,aI,h5]⟩
 ·rintro ⟨t,h1,rfl,h3⟩
  have:=X3 t [(false,n)] h1;rw[gQ,h3,List.headD_cons,List.tail_cons,gQ,List.append_nil]at this;obtain⟨d1,d2,Z1,Z2,e1,e2,h5,h6,h7⟩:=this;subst h6 h7;rw[List.append_nil]at e1 e2;rw[e1,e2];exact h5
end
def aF:Fo->Fo->Fo
 | .no,u=>u
 | .nd q ks ts,u=> .nd q ks (aF ts u)
theorem kP:∀(t u:Fo),ai (aF t u)=ai t++ai u
 | .no,u=>rfl
 | .nd q ks ts,u=>by rw[aF,ai,ai,kP ts u,List.cons_append,List.append_assoc]
theorem kQ(R:List Ru):∀(t u:Fo),aI R (aF t u)=aI R t++aI R u
 | .no,u=>rfl
 | .nd q ks ts,u=>by rw[aF,aI,aI,kQ R ts u,List.cons_append]
theorem qU{R:List Ru}:∀(t u:Fo) (ns ms:List Int),okF R t ns->okF R u ms->okF R (aF t u) (ns++ms)
 | .no,u,ns,ms,h,h'=>by cases h;exact h'
 | .nd q ks ts,u,ns,ms,h,h'=>by
  obtain⟨n,ns',rfl,h1,h2,h3,h4⟩:=h;exact⟨n,ns'++ms,rfl,h1,h2,h3,qU ts u ns' ms h4 h'⟩
theorem pX{R:List Ru}:∀(ns ms:List Int) (t:Fo),okF R t (ns++ms)->∃t1 t2,t=aF t1 t2/\okF R t1 ns/\okF R t2 ms
 | [],ms,t,h=>⟨.no,t,rfl,rfl,h⟩
 |n::ns,ms,t,h=>by
  obtain⟨q,ks,ts,rfl,h1,h2,h3,h4⟩:=rV h;obtain⟨t1,t2,rfl,u1,u2⟩:=pX ns ms ts h4;exact⟨.nd q ks t1,t2,rfl,⟨n,ns,rfl,h1,h2,h3,u1⟩,u2⟩
theorem gT:∀(l m:List Sy),aB (l++m)=aB l++aB m
 | [],m=>rfl
 |(true,_)::l,m=>gT l m
 |(false,n)::l,m=>by rw[List.cons_append,aB,aB,gT l m,List.cons_append]
theorem mQ{R:List Ru}:∀(t:Fo) (ns:List Int),okF R t ns->(aI R t).length=ns.length
 | .no,ns,h=>by cases h;rfl
 | .nd q ks ts,ns,h=>by
  obtain⟨n,ns',rfl,h1,h2,h3,h4⟩:=h;rw[aI,List.length_cons,List.length_cons,mQ ts ns' h4]
theorem nW:∀(l m:List Sy) (ys zs:List (List Int)),ys.length=(aB l).length->gQ (l++m) (ys++zs)=gQ l ys++gQ m zs
 | [],m,ys,zs,h=>by rw[aB]at h;rw[List.eq_nil_of_length_eq_zero h];rfl
 |(true,v)::l,m,ys,zs,h=>by rw[List.cons_append,gQ,gQ,nW l m ys zs h,List.cons_append]
 |(false,n)::l,m,ys,zs,h=>by
  cases ys with
  |nil=>rw[aB]at h;cases h
  |cons y ys=>
   rw[aB,List.length_cons,List.length_cons]at h;rw[List.cons_append,List.cons_append,gQ,gQ,List.headD_cons,List.tail_cons,List.headD_cons,List.tail_cons,nW l m ys zs (by omega),List.append_assoc]
section
variable{P:Program}{ops:Array Oper}{Q:Exit->Act->World->Prop}{md:Region.Mode}{S:World->Prop}
def wO(P:Program)(ops:Array Oper)(Q:Exit->Act->World->Prop)(S:World->Prop)(n:Nat)(J:Act->World->Prop)(i:Nat)(a:Act)(w:World):Prop:=
 ∃o,ops.toList[i]?=some o/\∀K:Act->World->Prop,Shut (∀a w,(i<n->S w)->J a w->K a w)->if Region.wanted o (yielded ops a.tmps)=true then Oper.wp P o a w K Q else K (a.put o.dst undef) w
def l9(P:Program)(md:Region.Mode)(ops:Array Oper)(Q:Exit->Act->World->Prop)(S:World->Prop)(n:Nat):Nat->Array Bool->Act->World->Prop
 |0,listed,a,w=>Region.ready md ops listed=[]/\Q .normal a w
 |k+1,listed,a,w=>Region.ready md ops listed≠[]/\∀i∈Region.ready md ops listed,wO P ops Q S n (l9 P md ops Q S n k (listed.setIfInBounds i true)) i a w
theorem l9.one{n k i:Nat}{listed:Array Bool}{a:Act}{w:World}(hr:decide (Region.ready md ops listed=[i])=true)(h:wO P ops Q S n (l9 P md ops Q S n k (listed.setIfInBounds i true)) i a w):l9 P md ops Q S n (k+1) listed a w:=by
 have hr':=of_decide_eq_true hr;refine⟨by rw[hr'];simp,fun j hj=> ?_⟩;rw[hr']at hj;have:j=i:=by simpa using hj
 subst this;exact h
theorem l9.two{n k i i':Nat}{listed:Array Bool}{a:Act}{w:World}(hr:decide (Region.ready md ops listed=[i,i'])=true)(h:wO P ops Q S n (l9 P md ops Q S n k (listed.setIfInBounds i true)) i a w)(h':wO P ops Q S n (l9 P md ops Q S n k (listed.setIfInBounds i' true)) i' a w):l9 P md ops Q S n (k+1) listed a w:=by
 have hr':=of_decide_eq_true hr;refine⟨by rw[hr'];simp,fun j hj=> ?_⟩;rw[hr']at hj;simp only[List.mem_cons,List.not_mem_nil,or_false]at hj;rcases hj with rfl|rfl
 ·exact h
 ·exact h'
theorem l9.end{n:Nat}{listed:Array Bool}{a:Act}{w:World}(hr:decide (Region.ready md ops listed=[])=true)(h:Q .normal a w):l9 P md ops Q S n 0 listed a w:=⟨of_decide_eq_true hr,h⟩
theorem PU{n:Nat}:∀(k:Nat) (listed:Array Bool) (a:Act) (w:World),l9 P md ops Q S n k listed a w->nV P md ops Q S n k listed a w
 |0,_,_,_,h=>⟨by simpa using h.1,h.2⟩
 |k+1,listed,a,w,h=>by
  refine⟨fun h1=>absurd h1 h.1,fun i hi=> ?_⟩;obtain⟨o,h0,h⟩:=h.2 i hi
  have h1:=h (fun a' w'=>(i<n->S w')/\nV P md ops Q S n k (listed.setIfInBounds i true) a' w')
   (fun a' w' hS hT=>⟨hS,PU k _ a' w' hT⟩)
  have h0':ops[i]?=some o:=by simpa using h0
  unfold wpOp;simp only[h0'];split
  ·rename_i hw
   rw[if_pos hw]at h1;exact .inl h1
  ·rename_i hw
   rw[if_neg hw]at h1;exact h1
def CU:List Nat->Array Bool->Array Bool
 | [],listed=>listed
 |i::l,listed=>CU l (listed.setIfInBounds i true)
def Ak(md:Region.Mode)(ops:Array Oper):List Nat->Array Bool->Bool
 | [],_=>true
 |k::ks,listed=>(Region.ready md ops listed).contains k&&Region.free md ops listed k&&Ak md ops ks (listed.setIfInBounds k true)
theorem PV{n m:Nat}(hsel:Region.noSelect ops=true)(hQ:∀c a d v w,Q (.panic c) (a.put d v) w->Q (.panic c) a w)(hs:Region.sinkB md ops n=true)(hc:Region.chainB md ops n=true)(hn:n<ops.size){w:World}(hS:S w):
 ∀(l:List Nat) (listed:Array Bool) (a:Act),(∀i∈l,i<n)->HeadInv md ops n listed->Ak md ops l listed=true->aU P ops S (fun a'=>l9 P md ops Q S n m (CU l listed) a' w) l a->
 nV P md ops Q S n (l.length+m) listed a w
 | [],listed,a,_,_,_,h=>by
  simp only[List.length_nil,Nat.zero_add];exact PU m listed a w h
 |k::l,listed,a,hl,inv,hB,h=>by
  simp only[Ak,Bool.and_eq_true]at hB;obtain⟨⟨hr,hf⟩,hB'⟩:=hB;have hkn:=hl k (by simp);have hr':k∈Region.ready md ops listed:=by simpa using hr
  obtain⟨o,v,h0,hy,hK⟩:=h;rw[show (k::l).length+m=(l.length+m)+1 by simp only[List.length_cons];omega]
  exact F7 h0 (Region.noSelect_spec hsel) (fun c a w=>hQ c a _ _ w) hs hc hn hkn _ listed a w inv (Region.free_spec h0 hf) hr' hy hS
   (PV hsel hQ hs hc hn hS l _ _ (fun i hi=>hl i (List.mem_cons_of_mem _ hi)) (inv.set hr' hkn) hB' hK)
def Gd(ops:Array Oper)(hs:List Nat)(m n:Nat):Bool:=
 Region.noSelect ops&&decide (n<ops.size)&&Region.sinkB .any ops n&&Region.chainB .any ops n&&(hs.all fun i=>decide (i<n))&&decide (hs.length+m=ops.size)&&Ak .any ops hs (Array.replicate ops.size false)
theorem X4{id:Nat}{a:Act}{w:World}(hs:List Nat)(m n:Nat)(S:World->Prop)(hm:P.follows .mixedOrders=true)(hB:Gd ops hs m n=true)(hS:S w.drew)
 (h:aU P ops S (fun a'=>l9 P .any ops (NoPanic Q) S n m (CU hs (Array.replicate ops.size false)) a' w.drew) hs a):(Code.region id ops true).wp P Q a w:=by
 simp only[Gd,Bool.and_eq_true,decide_eq_true_eq,List.all_eq_true]at hB;obtain⟨⟨⟨⟨⟨⟨hsel,hn⟩,hsk⟩,hc⟩,hl⟩,hlen⟩,hlex⟩:=hB
 have inv0:HeadInv .any ops n (Array.replicate ops.size false):=
  ⟨by simp,fun j oj _ hl=>(by rw[getD_replicate_false]at hl;cases hl),fun t _ ht=>Go.getD_in (by simpa using ht) (getD_replicate_false _ _)⟩
 refine wp_region_noPanic (wp_region_any hm (F6 (S:=S) (n:=n) _ _ _ _ ?_));have:=PV (md:= .any) (Q:=NoPanic Q) (m:=m) hsel (fun _ _ _ _ _ h=>h) hsk hc hn hS hs _ a hl inv0 hlex h;rw[hlen]at this;exact this
end
end Go.Proofs.YtpkmpkphfflpjaaGreat
namespace Go.Proofs.YtpkmpkphfflpjaaGreat
open Go.RowKit
theorem yF{w:World}{base:Nat}{e:TypeId}{size:Nat}{v:Value}{n:Nat}{xs:List Value}(h:w.ownsRow base e size v n xs){a:Addr}(ha:a.block<base)(u:Value):(w.setCell a u).ownsRow base e size v n xs:=by
 obtain⟨z1,z2|⟨g',c',cur,e',z2,z3,z4⟩⟩:=h
 ·exact⟨z1,.inl z2⟩
 ·exact⟨z1,.inr ⟨g',c',cur,e',z2,by rw[Below.heap_setCell _ _ _ _ (by omega)];exact z3,z4⟩⟩
theorem qV{w:World}{n m:Int}:Calls Tryz.prog 42 #[.int .i64 n,.int .i64 m] w fun e w'=>e= .returned (.bool (decide (0<=n)&&decide (n<m)))/\w'=w:=by
 by_cases h0:0<=n
 ·by_cases h1:n<m
  ·have e1:decide (n<m)=true:=decide_eq_true h1
   have e0:decide (0<=n)=true:=decide_eq_true h0;rw[e0,e1]
   go_enter Tryz.func42,Tryz.ntmps42
   go_wp2_with fail
   go_ret;exact⟨rfl,rfl⟩
  ·have e1:decide (n<m)=false:=decide_eq_false h1
   have e0:decide (0<=n)=true:=decide_eq_true h0;rw[e0,e1];clear h1
   go_enter Tryz.func42,Tryz.ntmps42
   go_wp2_with fail
   go_ret;exact⟨rfl,rfl⟩
 ·have e0:decide (0<=n)=false:=decide_eq_false h0
  rw[e0];clear h0
  go_enter Tryz.func42,Tryz.ntmps42
  go_wp2_with fail
  go_ret;exact⟨rfl,rfl⟩
section
variable{w:World}{T N:Int}{ra:Option Addr}{rn rc:Nat}{op a b c:Int}
theorem yG:Calls Tryz.prog 144 #[.agg #[.int .i64 T,.int .i64 N,.slice ra rn rc,.int .i64 op,.int .i64 a,.int .i64 b,.int .i64 c]] w fun e w'=>e= .returned (.agg #[.bool false,.int .i64 N])/\Below w.heap.size w w':=by
 go_enter Tryz.func144,Tryz.ntmps144
 go_wp2_with fail
 refine bodyPost_ret (v:= .agg #[.bool false,.int .i64 N]) (by simp[results,Tryz.results144,go_sem]) rfl ?_;exact⟨rfl,by first|exact((Below.refl _ _).alloc (Nat.le_refl _) _).alloc (by simp) _|exact(((Below.refl _ _).alloc (Nat.le_refl _) _).alloc (by simp) _).setCell (by simp) _⟩
theorem CV{M:Int}{oa:Option Addr}{on oc:Nat}:Calls Tryz.prog 136 #[.agg #[.int .i64 T,.int .i64 N,.slice ra rn rc,.int .i64 op,.int .i64 a,.int .i64 b,.int .i64 c],.int .i64 M,.slice oa on oc] w fun e w'=>e= .returned (.agg #[.int .i64 T,.int .i64 M,.slice oa on oc])/\Below w.heap.size w w':=by
 go_enter Tryz.func136,Tryz.ntmps136
 go_wp2_with fail
 refine bodyPost_ret (v:= .agg #[.int .i64 T,.int .i64 M,.slice oa on oc]) (by simp[results,Tryz.results136,go_sem]) rfl ?_;exact⟨rfl,by first|exact((Below.refl _ _).alloc (Nat.le_refl _) _).alloc (by simp) _|exact(((Below.refl _ _).alloc (Nat.le_refl _) _).alloc (by simp) _).setCell (by simp) _⟩
end
theorem PW{w:World}{L:Int}{lv:Value}{l:List Sy}(hl:bK w lv l)(hs:l.length<=1000):
 Calls Tryz.prog 137 #[.agg #[.int .i64 L,lv]] w fun e w'=> ∃ga d,e= .returned (.agg #[.int .i64 L,.slice ga l.length d])/\w'.ownsRow w.heap.size 104 2 (.slice ga l.length d) l.length (bC l)/\Below w.heap.size w w':=by
 obtain⟨la,lc,hlv,_⟩:=hl.1;subst hlv;obtain⟨n,hn⟩:∃n,l.length=n:=⟨_,rfl⟩;rw[hn]at hl hs⊢;have HL:Hid (bK w (.slice la n lc) l/\l.length=n):=⟨hl,hn⟩;clear hl hn
 go_enter Tryz.func137,Tryz.ntmps137
 go_upto_region 1 with fail
 obtain⟨W1,hW1⟩:∃W,(w.alloc (.cells #[.int .i64 L,.slice la n lc] 79)).alloc (.cells #[.int .i64 0,.slice none 0 0] 79)=W:=⟨_,rfl⟩;obtain⟨W2,hW2⟩:∃W,W1.drew=W:=⟨_,rfl⟩;have u1:W2.cell? ⟨w.heap.size,0,none⟩=some (.int .i64 L):=by rw[<-hW2,<-hW1];simp[go_sem]
 have u2:W2.cell? ⟨w.heap.size,1,none⟩=some (.slice la n lc):=by rw[<-hW2,<-hW1];simp[go_sem]
 have u3:W2.cell? ⟨w.heap.size+1,0,none⟩=some (.int .i64 0):=by rw[<-hW2,<-hW1];simp[go_sem]
 have u4:W2.cell? ⟨w.heap.size+1,1,none⟩=some (.slice none 0 0):=by rw[<-hW2,<-hW1];simp[go_sem]
 have uf:∀o,W2.frozen? ⟨w.heap.size+1,o,none⟩=false:=fun o=>by rw[<-hW2,<-hW1];simp[go_sem]
 have hB1:Below w.heap.size w W2:=by rw[<-hW2,<-hW1];exact(((Below.refl _ _).alloc (Nat.le_refl _) _).alloc (by simp) _).drew
 have hs1:W2.heap.size=w.heap.size+2:=by rw[<-hW2,<-hW1];simp
 have X5:Hid (∀wq,Below W2.heap.size W2 wq->dI wq (.slice la n lc) n (bC l)):=fun wq hq=>by
  have:=HL.out.1.row;rw[HL.out.2]at this;exact this.below (B:=w.heap.size) (Nat.le_refl _) (hB1.trans (hq.mono (by omega)))
 have HS:Hid (W2.heap.size=w.heap.size+2):=hs1;rw[hW1];clear hW1 hs1;refine X4 [0,1,3,4] 4 7 (fun w'=>w'.cell? ⟨w.heap.size,0,none⟩=some (.int .i64 L)/\w'.cell? ⟨w.heap.size,1,none⟩=some (.slice la n lc)) (by kernel_rfl) (by kernel_rfl) (by rw[hW2];exact⟨u1,u2⟩) ?_;rw[hW2];clear hW2
 iterate 4
  refine aU.gN (v:= ?_) rfl (by rfl) ?_ ?_;rotate_left
  ·intro w' hSw
   obtain⟨z0,z1⟩:=hSw
   go_simp
   try with_reducible rfl
  simp only[Act.put,List.setIfInBounds_toArray,List.set_cons_zero,List.set_cons_succ]
 rw[aU];have hB2:Below W2.heap.size W2 (W2.alloc (.cells #[] 104)):=(Below.refl _ _).alloc (Nat.le_refl _) _;have CW:(W2.alloc (.cells #[] 104)).ownsRow W2.heap.size 104 2 (.slice (some ⟨W2.heap.size,0,none⟩) 0 0) 0 []:=⟨rfl,.inr ⟨W2.heap.size,0,#[],rfl,Nat.le_refl _,heap_alloc_new _ _,Nat.le_refl _,by decide,rfl,rfl⟩⟩;have hrow:=X5.out _ hB2;refine l9.one (i:=2) (by kernel_rfl) ⟨_,rfl,fun K hK=> ?_⟩
 go_simp
 refine hK.out _ _ (fun _=>⟨?_,?_⟩) ?_
 ·exact(hB2.cell (World.block_lt_of_cell? _ _ u1)).trans u1
 ·exact(hB2.cell (World.block_lt_of_cell? _ _ u2)).trans u2
 clear hK;refine l9.one (i:=5) (by kernel_rfl) ⟨_,rfl,fun K hK=> ?_⟩;refine XK rfl _ _ rfl rfl rfl rfl CW hrow hB2.size (by omega) ?_;intro a' d' w' hown hgrow hat;have hB3:Below W2.heap.size W2 w':=hB2.grown hgrow hB2.size fun k hk=>(CW.lt k hk).1;rw[Nat.zero_add]at hown⊢;rw[List.nil_append]at hown;have v1:=(hB3.cell (World.block_lt_of_cell? _ _ u1)).trans u1;have v2:=(hB3.cell (World.block_lt_of_cell? _ _ u2)).trans u2;have v3:=(hB3.cell (World.block_lt_of_cell? _ _ u3)).trans u3;have v4:=(hB3.cell (World.block_lt_of_cell? _ _ u4)).trans u4;have vf:∀o,w'.frozen? ⟨w.heap.size+1,o,none⟩=false:=fun o=>(hB3.frozen (p:=⟨w.heap.size+1,o,none⟩) (show w.heap.size+1<_ by rw[HS.out];omega)).trans (uf o);have vf0:=vf 0;have vf1:=vf 1;refine hK.out _ _ (fun _=>⟨v1,v2⟩) ?_;clear hK CW hrow hgrow hat u1 u2 u3 u4 uf hB2;refine l9.one (i:=6) (by kernel_rfl) ⟨_,rfl,fun K hK=> ?_⟩
 go_simp
 refine hK.out _ _ (fun _=>⟨v1,v2⟩) ?_;clear hK;refine l9.one (i:=7) (by kernel_rfl) ⟨_,rfl,fun K hK=> ?_⟩
 go_simp
 refine hK.out _ _ (fun h=>absurd h (by omega)) ?_;clear hK;refine l9.end (by kernel_rfl) (NoPanic.normal ?_)
 have q0:((w'.setCell ⟨w.heap.size+1,0,none⟩ (.int .i64 L)).setCell ⟨w.heap.size+1,1,none⟩ (.slice a' n d')).cell? ⟨w.heap.size+1,0,none⟩=some (.int .i64 L):=by
  rw[dH (.inr (by simp))];exact World.cell?_setCell_same _ _ _ v3
 have q1:((w'.setCell ⟨w.heap.size+1,0,none⟩ (.int .i64 L)).setCell ⟨w.heap.size+1,1,none⟩ (.slice a' n d')).cell? ⟨w.heap.size+1,1,none⟩=some (.slice a' n d'):=by
  exact World.cell?_setCell_same _ _ _ ((dH (.inr (by simp))).trans v4)
 go_wp2_with fail
 refine bodyPost_ret (v:= .agg #[.int .i64 L,.slice a' n d']) (by simp[results,Tryz.results137,go_sem,q0,q1]) rfl ?_;have hlo:w.heap.size+1<W2.heap.size:=by rw[HS.out];omega
 refine⟨a',d',rfl,jE (yF (yF hown (a:=⟨w.heap.size+1,0,none⟩) hlo _) (a:=⟨w.heap.size+1,1,none⟩) hlo _) (by omega),?_⟩;exact((hB1.trans (hB3.mono (by omega))).setCell (p:=⟨w.heap.size+1,0,none⟩) (by simp) _).setCell (p:=⟨w.heap.size+1,1,none⟩) (by simp) _
theorem X6{l:List Sy}{k:Nat}(hk:k<l.length):(aB (l.take (k+1))).length=(aB (l.take k)).length+(if (l.getD k (false,0)).1 then 0 else 1):=by
 have e:l.getD k (false,0)=l[k]:=by simp[List.getD,hk]
 rw[List.take_succ_eq_append_getElem hk,gT,List.length_append,e];obtain⟨t,n⟩:=l[k];cases t<;>rfl
theorem X7(l:List Sy):(aB l).length<=l.length:=by
 induction l with
 |nil=>exact Nat.le_refl _
 |cons x l ih=>
  obtain⟨t,n⟩:=x;cases t
  ·rw[aB,List.length_cons,List.length_cons];omega
  ·rw[aB,List.length_cons];omega
theorem Gf{w:World}{lv:Value}{l:List Sy}(hl:bK w lv l)(hs:l.length<=1000):
 Calls Tryz.prog 43 #[lv] w fun e w'=>e= .returned (.int .i64 (aB l).length)/\Below w.heap.size w w':=by
 obtain⟨la,lc,hlv,_⟩:=hl.1;subst hlv;have HL:Hid (bK w (.slice la l.length lc) l):=hl;clear hl
 go_enter Tryz.func43,Tryz.ntmps43
 go_wp2_with fail
 go_loopw [3,8] (fun s3 s8 wr=> ∃k:Nat,s3= .int .i64 (aB (l.take k)).length/\s8= .int .i64 k/\k<=l.length/\Below w.heap.size w wr) (fun _ s _=>l.length-(intOf s).toNat)
 case atStart=>exact⟨0,rfl,rfl,Nat.zero_le _,Below.refl _ _⟩
 case round=>
  obtain⟨k,rfl,rfl,hk,hB⟩:=hrel;have HB:Hid (Below w.heap.size w wr):=hB;by_cases hlt:k<l.length
  ·obtain⟨b,o,c,hv,c1,c2⟩:=(HL.out.same (iT hB)).2 k hlt
   cases hv;have ht:=X6 hlt;have hle:=X7 (l.take k);rw[List.length_take]at hle;obtain⟨⟨t,v⟩,hx⟩:∃x,l.getD k (false,0)=x:=⟨_,rfl⟩;rw[hx]at c1 c2 ht;simp only at c1 c2 ht;obtain⟨q,hq⟩:∃q,(aB (l.take k)).length=q:=⟨_,rfl⟩;rw[hq]at ht hle⊢;have hq8:q<=1000:=by omega
   have HT:Hid ((aB (l.take (k+1))).length=q+(if t=true then 0 else 1)):=ht;have i0:(0:Int)<=(k:Int):=Int.natCast_nonneg _;have i1:(k:Int)<(l.length:Int):=by omega
   have hsz:=hB.size;clear hx ht hq hle hB;cases t with
   |true=>
    go_wp2_with fail
    go_roundw
    case rel=>exact⟨k+1,by rw[HT.out];rfl,by go_num,by omega,HB.out.alloc hsz _⟩
    case measure=>simp[intOf];omega
   |false=>
    go_wp2_with fail
    go_roundw
    case rel=>exact⟨k+1,by rw[HT.out];go_num,by go_num,by omega,HB.out.alloc hsz _⟩
    case measure=>simp[intOf];omega
  ·have hkk:k=l.length:=by omega
   subst hkk;rw[List.take_length];clear hB
   go_wp2_with fail
   go_ret;exact⟨rfl,HB.out⟩
def kC(x:Value×Ru):List Value:=[.int .i64 x.2.1,x.1]
def dN(RL:List (Value×Ru)):List Value:=RL.flatMap kC
theorem Al(RL:List (Value×Ru)):(dN RL).length=RL.length*2:=by
 unfold dN
 induction RL with
 |nil=>rfl
 |cons a L ih=>rw[List.flatMap_cons,List.length_append,ih];simp[kC];omega
theorem Gg{RL:List (Value×Ru)}{i j:Nat}(hi:i<RL.length)(hj:j<2):(dN RL)[i*2+j]?=(kC (RL.getD i (.slice none 0 0,(0,[]))))[j]?:=by
 unfold dN
 induction RL generalizing i with
 |nil=>simp at hi
 |cons a L ih=>
  rw[List.flatMap_cons];cases i with
  |zero=>rw[List.getElem?_append_left (by simp[kC];omega)];simp
  |succ i=>
   rw[List.getElem?_append_right (by simp[kC];omega)];simp only[kC,List.length_cons,List.length_nil];rw[show (i+1)*2+j-(0+1+1)=i*2+j by omega];have:=ih (i:=i) (by simpa using hi);simpa [List.getD,kC] using this
theorem Kw(A C:List (Value×Ru)):dN (A++C)=dN A++dN C:=by simp[dN]
structure bA(w:World)(B:Nat)(lv:Value)(RL:List (Value×Ru)):Prop where
 own:w.ownsRow B 79 2 lv RL.length (dN RL)
 sym:∀x∈RL,nJ w (fun b=>B<=b/\lv.ownBlock≠some b) x.1 x.2.2
section
variable{w w':World}{B:Nat}{lv:Value}{RL:List (Value×Ru)}
theorem bA.below(h:bA w B lv RL)(hb:Below w.heap.size w w'):bA w' B lv RL:=⟨own_below h.own hb fun g hg=>(h.own.lt g hg).2,fun x hx=>(h.sym x hx).below hb⟩
theorem bA.mono{B':Nat}(h:bA w B lv RL)(hB:B'<=B):bA w B' lv RL:=⟨jE h.own hB,fun x hx=>(h.sym x hx).kept (Nat.le_refl _) fun b hA _=>⟨rfl,by have:=hA.1;omega,hA.2⟩⟩
theorem Gh(w:World)(B:Nat):bA w B (.slice none 0 0) []:=⟨World.ownsRow_nil _ _ _ _,fun x hx=>by cases hx⟩
theorem X8(h:∀x∈RL,∃a n c,x.1= .slice a n c):∀u∈dN RL,u.oneCell'=true:=fun u hu=>by
 unfold dN at hu;obtain⟨x,hx,hu⟩:=List.mem_flatMap.1 hu;obtain⟨a,n,c,e⟩:=h x hx;simp only[kC,List.mem_cons,List.not_mem_nil,or_false]at hu;rcases hu with rfl|rfl
 ·rfl
 ·rw[e];rfl
theorem bA.slices(h:bA w B lv RL):∀x∈RL,∃a n c,x.1= .slice a n c:=fun x hx=>let ⟨a,c,e,_⟩:=(h.sym x hx).1;⟨a,_,c,e⟩
theorem bA.rules(h:bA w B lv RL):aD w w.heap.size lv (RL.map fun x=>x.2):=by
 obtain⟨a,c,hv⟩:=aY h.own;refine⟨⟨a,c,by rw[hv,List.length_map]⟩,fun q hq=> ?_⟩;have hq':q<RL.length:=by simpa using hq
 obtain⟨g,cap,hg,_,hlt⟩:=h.own.form (by omega);have ho:=h.own;rw[hg]at ho;have e:(RL.map fun x=>x.2).getD q (0,[])=(RL.getD q (.slice none 0 0,(0,[]))).2:=by simp[List.getD,hq']
 have hx:RL.getD q (.slice none 0 0,(0,[]))∈RL:=by simp[List.getD,hq']
 obtain⟨⟨qa,qc,PX,hqc⟩,hsy⟩:=h.sym _ hx;have c0:=(ho.cellAt (q*2) (by omega)).trans (Gg (j:=0) hq' (by omega));have c1:=(ho.cellAt (q*2+1) (by omega)).trans (Gg (j:=1) hq' (by omega));simp only[kC,List.getElem?_cons_zero,List.getElem?_cons_succ]at c0 c1;rw[PX]at c1;refine⟨g,0,cap,qa,qc,by rw[hg,List.length_map],hlt,by rw[e,Nat.zero_add];exact c0,by rw[e,Nat.zero_add];exact c1,by rw[e];exact hqc,fun j hj=> ?_⟩;rw[e]at hj⊢;obtain⟨b,o,c',h1,_,h3,h4,h5⟩:=hsy j hj;rw[PX]at h1;cases h1;exact⟨b,o,rfl,h3,h4,by rw[<-Nat.add_assoc];exact h5⟩
end
structure O8(w:World)(T N:Nat)(ra:Option Addr)(rc:Nat)(R:List Ru)(s:Stp)(rb g d:Nat)(L:Int)(l:List Sy)(wq:World):Prop where
 g0:wq.cell? ⟨w.heap.size,0,none⟩=some (.int .i64 T)
 g1:wq.cell? ⟨w.heap.size,1,none⟩=some (.int .i64 N)
 g2:wq.cell? ⟨w.heap.size,2,none⟩=some (.slice ra R.length rc)
 s0:wq.cell? ⟨w.heap.size+1,0,none⟩=some (.int .i64 s.op)
 s1:wq.cell? ⟨w.heap.size+1,1,none⟩=some (.int .i64 s.a)
 s2:wq.cell? ⟨w.heap.size+1,2,none⟩=some (.int .i64 s.b)
 s3:wq.cell? ⟨w.heap.size+1,3,none⟩=some (.int .i64 s.c)
 r0:wq.cell? ⟨rb,0,none⟩=some (.int .i64 L)
 r1:wq.cell? ⟨rb,1,none⟩=some (.slice (some ⟨g,0,none⟩) l.length d)
 rf:∀o,wq.frozen? ⟨rb,o,none⟩=false
 own:wq.ownsRow (w.heap.size+2) 104 2 (.slice (some ⟨g,0,none⟩) l.length d) l.length (bC l)
 ne:g≠rb
 Am:w.heap.size+2<=rb
 rules:aD wq w.heap.size (.slice ra R.length rc) R
 below:Below w.heap.size w wq
section
variable{w wq w':World}{T N:Nat}{ra:Option Addr}{rc:Nat}{R:List Ru}{s:Stp}{rb g d:Nat}{L:Int}{l:List Sy}
theorem O8.lt(h:O8 w T N ra rc R s rb g d L l wq):rb<wq.heap.size:=World.block_lt_of_cell? _ _ h.r0
theorem O8.X9(h:O8 w T N ra rc R s rb g d L l wq):w.heap.size+2<=g/\g<wq.heap.size:=h.own.lt g rfl
theorem O8.later(h:O8 w T N ra rc R s rb g d L l wq)(hb:Below wq.heap.size wq w'):O8 w T N ra rc R s rb g d L l w':=by
 have hlt:=h.lt;have hlo:=h.Am
 exact⟨(hb.cell (by simp only;omega)).trans h.g0,(hb.cell (by simp only;omega)).trans h.g1,(hb.cell (by simp only;omega)).trans h.g2,(hb.cell (by simp only;omega)).trans h.s0,(hb.cell (by simp only;omega)).trans h.s1,(hb.cell (by simp only;omega)).trans h.s2,(hb.cell (by simp only;omega)).trans h.s3,
  (hb.cell (by simp only;omega)).trans h.r0,(hb.cell (by simp only;omega)).trans h.r1,fun o=>(hb.frozen (by simp only;omega)).trans (h.rf o),own_below h.own hb fun g hg=>(h.own.lt g hg).2,h.ne,h.Am,h.rules.below (hb.mono (by omega)),h.below.trans (hb.mono (by omega))⟩
theorem O8.jF(h:O8 w T N ra rc R s rb g d L l wq):bK wq (.slice (some ⟨g,0,none⟩) l.length d) l:=(wK h.own).jF
theorem O8.Gi(h:O8 w T N ra rc R s rb g d L l wq)(L':Int):O8 w T N ra rc R s rb g d L' l (wq.setCell ⟨rb,0,none⟩ (.int .i64 L')):=by
 have hlo:=h.Am;refine⟨?_,?_,?_,?_,?_,?_,?_,World.cell?_setCell_same _ _ _ h.r0,?_,fun o=>(World.frozen?_setCell _ _ _ _).trans (h.rf o),?_,h.ne,h.Am,h.rules.below ((Below.refl _ _).setCell (by simp only;omega) _),h.below.setCell (by simp only;omega) _⟩
 ·rw[dH (.inl (by simp only;omega))];exact h.g0
 ·rw[dH (.inl (by simp only;omega))];exact h.g1
 ·rw[dH (.inl (by simp only;omega))];exact h.g2
 ·rw[dH (.inl (by simp only;omega))];exact h.s0
 ·rw[dH (.inl (by simp only;omega))];exact h.s1
 ·rw[dH (.inl (by simp only;omega))];exact h.s2
 ·rw[dH (.inl (by simp only;omega))];exact h.s3
 ·rw[dH (.inr (by simp))];exact h.r1
 ·obtain⟨h1,⟨hx,_⟩|⟨g',c',cur,e,h2,h3,h4⟩⟩:=h.own
  ·cases hx
  ·refine⟨h1,.inr ⟨g',c',cur,e,h2,?_,h4⟩⟩
   injection e with e1;injection e1 with e1;injection e1 with e1;subst e1;rw[Below.heap_setCell _ _ _ _ (fun e=>h.ne (by simpa using e))];exact h3
theorem O8.out(h:O8 w T N ra rc R s rb g d L l wq):bA (wq.alloc (.cells #[.int .i64 L,.slice (some ⟨g,0,none⟩) l.length d] 79)) w.heap.size (.slice (some ⟨wq.heap.size,0,none⟩) 1 1) [(.slice (some ⟨g,0,none⟩) l.length d,(L,l))]/\Below w.heap.size w (wq.alloc (.cells #[.int .i64 L,.slice (some ⟨g,0,none⟩) l.length d] 79)):=by
 have hB:=h.below.alloc h.below.size (.cells #[.int .i64 L,.slice (some ⟨g,0,none⟩) l.length d] 79);refine⟨⟨?_,fun x hx=> ?_⟩,hB⟩
 ·have:=World.ownsRow_lit (base:=w.heap.size) (e:=79) (size:=2) wq #[.int .i64 L,.slice (some ⟨g,0,none⟩) l.length d] 1 h.below.size (by unfold maxLen;omega) rfl
  exact this
 ·simp only[List.mem_singleton]at hx
  subst hx;have:=(wK h.own).below ((Below.refl _ _).alloc (Nat.le_refl _) (.cells #[.int .i64 L,.slice (some ⟨g,0,none⟩) l.length d] 79));refine this.kept (Nat.le_refl _) fun b hA _=>⟨rfl,by have:=hA.2;omega,fun e=> ?_⟩;simp only[Value.ownBlock,Option.some.injEq]at hA e;have:=h.X9;omega
theorem O8.PY(h:O8 w T N ra rc R s rb g d L l wq){w5:World}{L':Int}{l':List Sy}{g3 d3:Nat}{u:Value}(hs:wq.heap.size<=w5.heap.size)(hb:∀k,k<wq.heap.size->k≠rb->w5.heap[k]?=wq.heap[k]?)(hB:Below w.heap.size w w5)(h0:w5.cell? ⟨rb,0,none⟩=some (.int .i64 L'))(h1:w5.cell? ⟨rb,1,none⟩=some u)(hf:∀o,w5.frozen? ⟨rb,o,none⟩=false)
 {B:Nat} (ho:w5.ownsRow B 104 2 (.slice (some ⟨g3,0,none⟩) l'.length d3) l'.length (bC l')) (hg:wq.heap.size<=g3):O8 w T N ra rc R s rb g3 d3 L' l' (w5.setCell ⟨rb,1,none⟩ (.slice (some ⟨g3,0,none⟩) l'.length d3)):=by
 have hlo:=h.Am;have hlt:=h.lt
 have keep:∀b o v,b<w.heap.size+2->wq.cell? ⟨b,o,none⟩=some v->(w5.setCell ⟨rb,1,none⟩ (.slice (some ⟨g3,0,none⟩) l'.length d3)).cell? ⟨b,o,none⟩=some v:=fun b o v hbl hv=>by
  rw[dH (.inl (by simp only;omega)),World.cell?_of_block (w:=wq) (a:=⟨b,o,none⟩) (hb b (by omega) (by omega))];exact hv
 refine⟨keep _ _ _ (by omega) h.g0,keep _ _ _ (by omega) h.g1,keep _ _ _ (by omega) h.g2,keep _ _ _ (by omega) h.s0,keep _ _ _ (by omega) h.s1,keep _ _ _ (by omega) h.s2,keep _ _ _ (by omega) h.s3,?_,World.cell?_setCell_same _ _ _ h1,fun o=>(World.frozen?_setCell _ _ _ _).trans (hf o),?_,by omega,h.Am,?_,hB.setCell (by simp only;omega) _⟩
 ·rw[dH (.inr (by simp))];exact h0
 ·obtain⟨z1,⟨hx,_⟩|⟨g',c',cur,e,z2,z3,z4⟩⟩:=ho
  ·cases hx
  ·refine⟨z1,.inr ⟨g',c',cur,e,?_,?_,z4⟩⟩
   ·injection e with e1
    injection e1 with e1;injection e1 with e1;omega
   ·injection e with e1
    injection e1 with e1;injection e1 with e1;subst e1;rw[Below.heap_setCell _ _ _ _ (by simp only;omega)];exact z3
 ·have hB2:Below w.heap.size wq (w5.setCell ⟨rb,1,none⟩ (.slice (some ⟨g3,0,none⟩) l'.length d3)):=by
   have h8:=hB.setCell (p:=⟨rb,1,none⟩) (by simp only;omega) (.slice (some ⟨g3,0,none⟩) l'.length d3);exact⟨h8.os.trans h.below.os.symm,h8.tape.trans h.below.tape.symm,h8.output.trans h.below.output.symm,by simpa using hs,fun k hk=>(h8.block k hk).trans (h.below.block k hk).symm⟩
  exact h.rules.below hB2
end
end Go.Proofs.YtpkmpkphfflpjaaGreat
