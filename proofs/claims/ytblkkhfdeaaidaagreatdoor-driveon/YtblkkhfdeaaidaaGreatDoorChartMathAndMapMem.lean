import Derived.Test.YtblkkhfdeaaidaaGreatDoorTxMathAndDerMath
import Derived.Test.YtblkkhfdeaaidaaGreatDoorTxNuAndHeldSeq
import Derived.Maps.Keyed
import Derived.WideKeyEntry
import Derived.DeepKeys4
namespace Go.Proofs.YtblkkhfdeaaidaaGreatDoor
structure aJ where
 rule:Nat
 read:Nat
 fr:Nat
 upto:Nat
 deriving DecidableEq
abbrev bX:=Int×Nat
structure aL where
 I:List aJ
 O:List aJ
 W:bX->List aJ
 E:bX->List Nat
 c:Nat
def eB{α:Type}(f:bX->α)(s:bX)(x:α):bX->α:=fun t=>if t=s then x else f t
theorem uS{α:Type}(f:bX->α)(s:bX)(x:α):eB f s x s=x:=by simp[eB]
theorem wO{α:Type}(f:bX->α){s t:bX}(h:t≠s)(x:α):eB f s x t=f t:=by simp[eB,h]
def bf(it:aJ)(j:Nat):aJ:=⟨it.rule,it.read+1,it.fr,j⟩
def dV(st:aL)(it:aJ):aL:=if it∈st.I then st else { st with I:=st.I++[it],O:=st.O++[it] }
def eF(R:List Ru)(s:bX):Nat->aL->aL
 |0,st=>st
 |k+1,st=>if (R.getD k (0,[])).1=s.1 then dV (eF R s k st) ⟨k,0,s.2,s.2⟩ else eF R s k st
def onE(it:aJ)(L:List Nat)(st:aL):aL:=L.foldl (fun st j=>dV st (bf it j)) st
def iN(j:Nat)(L:List aJ)(st:aL):aL:=L.foldl (fun st it=>dV st (bf it j)) st
def gm(s:bX)(it:aJ)(st:aL):aL:={ st with W:=eB st.W s (st.W s++[it]) }
def gX(s:bX)(j:Nat)(st:aL):aL:={ st with E:=eB st.E s (st.E s++[j]) }
def tC(R:List Ru)(s:bX)(it:aJ)(st:aL):aL:=
 let st1:=if st.W s=[] then eF R s R.length st else st
 onE it (st.E s) (gm s it st1)
def wP(s:bX)(j:Nat)(st:aL):aL:=if j∈st.E s then st else iN j (st.W s) (gX s j st)
def iF(R:List Ru)(tok:List Int)(it:aJ)(st:aL):aL:=
 if it.read=(R.getD it.rule (0,[])).2.length then wP ((R.getD it.rule (0,[])).1,it.fr) it.upto st
 else if ((R.getD it.rule (0,[])).2.getD it.read (false,0)).1=false then tC R (((R.getD it.rule (0,[])).2.getD it.read (false,0)).2,it.upto) it st
 else if it.upto<tok.length/\tok.getD it.upto 0=((R.getD it.rule (0,[])).2.getD it.read (false,0)).2 then dV st (bf it (it.upto+1)) else st
def oQ:List aJ:=(List.range 40).flatMap fun a=>(List.range 9).flatMap fun b=>(List.range 31).flatMap fun c=>(List.range 31).map fun d=>⟨a,b,c,d⟩
theorem YF{it:aJ}(h1:it.rule<40)(h2:it.read<9)(h3:it.fr<31)(h4:it.upto<31):it∈oQ:=by
 unfold oQ;simp only[List.mem_flatMap,List.mem_map,List.mem_range];exact⟨_,h1,_,h2,_,h3,_,h4,rfl⟩
theorem YG(k:Nat):∀n:Nat,((List.range n).map fun _=>k).sum=n*k:=by
 intro n
 induction n with
 |zero=>simp
 |succ n ih=>rw[List.range_succ,List.map_append,List.sum_append,ih,Nat.add_mul];simp
theorem YH:oQ.length=345960:=by
 unfold oQ;simp only[List.length_flatMap,List.length_map,List.length_range,YG]
def mU(I:List aJ):Nat:=(oQ.filter fun x=>decide (x∉I)).length
theorem YI{x:aJ}{I:List aJ}(hI:x∉I):∀U:List aJ,x∈U->(U.filter fun y=>decide (y∉I++[x])).length+1<=(U.filter fun y=>decide (y∉I)).length:=by
 have mono:∀U:List aJ,(U.filter fun y=>decide (y∉I++[x])).length<=(U.filter fun y=>decide (y∉I)).length:=by
  intro U
  induction U with
  |nil=>simp
  |cons a U ih=>
   by_cases h1:a∈I
   ·have h2:a∈I++[x]:=by simp[h1]
    simpa [List.filter_cons,h1] using ih
   ·by_cases h2:a=x
    ·subst h2
     have h3:a∈I++[a]:=by simp
     simp only[List.filter_cons,h1,h3,not_true_eq_false,not_false_eq_true,decide_true,decide_false,if_true,List.length_cons];simp only[Bool.false_eq_true,if_false];omega
    ·have h3:a∉I++[x]:=by simp[h1,h2]
     simp only[List.filter_cons,h1,h3,not_false_eq_true,decide_true,if_true,List.length_cons];omega
 intro U
 induction U with
 |nil=>intro h;cases h
 |cons a U ih=>
  intro h;by_cases h2:a=x
  ·subst h2
   have h3:a∈I++[a]:=by simp
   simp only[List.filter_cons,hI,h3,not_true_eq_false,not_false_eq_true,decide_true,decide_false,if_true,List.length_cons];simp only[Bool.false_eq_true,if_false];have:=mono U;omega
  ·have hU:x∈U:=by
    rcases List.mem_cons.1 h with h|h
    ·exact absurd h.symm h2
    ·exact h
   have:=ih hU;by_cases h1:a∈I
   ·have h3:a∈I++[x]:=by simp[h1]
    simpa [List.filter_cons,h1] using this
   ·have h3:a∉I++[x]:=by simp[h1,h2]
    simp only[List.filter_cons,h1,h3,not_false_eq_true,decide_true,if_true,List.length_cons];omega
theorem YJ{x:aJ}{I:List aJ}(hI:x∉I)(hU:x∈oQ):mU (I++[x])+1<=mU I:=YI hI _ hU
structure Puts(Q:aJ->Prop)(st st':aL):Prop where
 W:st'.W=st.W
 E:st'.E=st.E
 c:st'.c=st.c
 mono:∀x∈st.I,x∈st'.I
 back:∀x∈st'.I,x∉st'.O->x∈st.I/\x∉st.O
 new:∀x∈st'.I,x∈st.I\/Q x
 sub:(∀x∈st.O,x∈st.I)->∀x∈st'.O,x∈st'.I
 cnt:st'.O.length+st.I.length=st.O.length+st'.I.length
 fit:(∀x,Q x->x∈oQ)->st'.I.length+mU st'.I<=st.I.length+mU st.I
 len:st.I.length<=st'.I.length
section
variable{Q:aJ->Prop}{st st':aL}
theorem Puts.refl(Q:aJ->Prop)(st:aL):Puts Q st st:=⟨rfl,rfl,rfl,fun _ h=>h,fun _ h1 h2=>⟨h1,h2⟩,fun _ h=> .inl h,fun h=>h,rfl,fun _=>Nat.le_refl _,Nat.le_refl _⟩
theorem Puts.trans{PW:aL}(h:Puts Q st st')(k:Puts Q st' PW):Puts Q st PW:=
 ⟨k.W.trans h.W,k.E.trans h.E,k.c.trans h.c,fun x hx=>k.mono x (h.mono x hx),fun x h1 h2=>by obtain⟨a,b⟩:=k.back x h1 h2;exact h.back x a b,
   fun x hx=>by rcases k.new x hx with a|a;exact h.new x a;exact .inr a,fun hs=>k.sub (h.sub hs),by have:=h.cnt;have:=k.cnt;omega,fun hq=>by have:=h.fit hq;have:=k.fit hq;omega,Nat.le_trans h.len k.len⟩
theorem Puts.put{it:aJ}(hq:Q it):Puts Q st (dV st it):=by
 unfold dV;split
 ·exact Puts.refl _ _
 ·rename_i hn
  refine⟨rfl,rfl,rfl,fun x hx=>by simp[hx],fun x h1 h2=> ?_,fun x hx=> ?_,fun hs x hx=> ?_,by simp;omega,fun hU=> ?_,by simp⟩
  ·simp only[List.mem_append,List.mem_singleton,not_or]at h1 h2
   rcases h1 with h1|h1
   ·exact⟨h1,h2.1⟩
   ·exact absurd h1 h2.2
  ·simp only[List.mem_append,List.mem_singleton]at hx
   rcases hx with hx|rfl
   ·exact .inl hx
   ·exact .inr hq
  ·simp only[List.mem_append,List.mem_singleton]at hx⊢
   rcases hx with hx|hx
   ·exact .inl (hs x hx)
   ·exact .inr hx
  ·have:=YJ hn (hU _ hq)
   simp only[List.length_append,List.length_singleton];omega
theorem FN(st:aL)(it:aJ):it∈(dV st it).I:=by
 unfold dV;split
 ·assumption
 ·simp
theorem Puts.onE{it:aJ}:∀{L:List Nat} {st:aL},(∀j∈L,Q (bf it j))->Puts Q st (onE it L st):=by
 intro L
 induction L with
 |nil=>intro st _;exact Puts.refl _ _
 |cons j L ih=>
  intro st h;exact(Puts.put (h j (by simp))).trans (ih (st:=dV st (bf it j)) fun i hi=>h i (by simp[hi]))
theorem Puts.iN{j:Nat}:∀{L:List aJ} {st:aL},(∀it∈L,Q (bf it j))->Puts Q st (iN j L st):=by
 intro L
 induction L with
 |nil=>intro st _;exact Puts.refl _ _
 |cons it L ih=>
  intro st h;exact(Puts.put (h it (by simp))).trans (ih (st:=dV st (bf it j)) fun i hi=>h i (by simp[hi]))
theorem YK{it:aJ}:∀{L:List Nat} {st:aL} {j:Nat},j∈L->bf it j∈(onE it L st).I:=by
 intro L
 induction L with
 |nil=>intro st j h;cases h
 |cons i L ih=>
  intro st j h;rcases List.mem_cons.1 h with rfl|h
  ·exact(Puts.onE (Q:=fun _=>True) (L:=L) (st:=dV st (bf it j)) fun _ _=>trivial).mono _ (FN _ _)
  ·exact ih h
theorem YL{j:Nat}:∀{L:List aJ} {st:aL} {it:aJ},it∈L->bf it j∈(iN j L st).I:=by
 intro L
 induction L with
 |nil=>intro st it h;cases h
 |cons i L ih=>
  intro st it h;rcases List.mem_cons.1 h with rfl|h
  ·exact(Puts.iN (Q:=fun _=>True) (L:=L) (st:=dV st (bf it j)) fun _ _=>trivial).mono _ (FN _ _)
  ·exact ih h
theorem Puts.begin{R:List Ru}{s:bX}:∀{k:Nat} {st:aL},(∀q,q<k->(R.getD q (0,[])).1=s.1->Q ⟨q,0,s.2,s.2⟩)->Puts Q st (eF R s k st):=by
 intro k
 induction k with
 |zero=>intro st _;exact Puts.refl _ _
 |succ k ih=>
  intro st h;have h0:=ih (st:=st) fun q hq=>h q (by omega);unfold eF;split
  ·rename_i he
   exact h0.trans (Puts.put (h k (by omega) he))
  ·exact h0
theorem PX{R:List Ru}{s:bX}:∀{k:Nat} {st:aL} {q:Nat},q<k->(R.getD q (0,[])).1=s.1->(⟨q,0,s.2,s.2⟩:aJ)∈(eF R s k st).I:=by
 intro k
 induction k with
 |zero=>intro st q h;omega
 |succ k ih=>
  intro st q h he;unfold eF;by_cases hk:q=k
  ·subst hk
   rw[if_pos he];exact FN _ _
  ·have:=ih (st:=st) (q:=q) (by omega) he
   split
   ·exact(Puts.put (Q:=fun _=>True) trivial).mono _ this
   ·exact this
end
section
variable{R:List Ru}{tok:List Int}
def di(R:List Ru)(it:aJ):List Sy:=(R.getD it.rule (0,[])).2
structure gY(R:List Ru)(tok:List Int)(it:aJ):Prop where
 rule:it.rule<R.length
 read:it.read<=(di R it).length
 le:it.fr<=it.upto
 len:it.upto<=tok.length
 seq:lD (lF R) ((di R it).take it.read) (part tok it.fr it.upto)
theorem gY.all{it:aJ}(h:gY R tok it)(hR:R.length<=40)(hr:∀q,q<R.length->(R.getD q (0,[])).2.length<=8)(ht:tok.length<=30):it∈oQ:=by
 have h1:=h.rule;have h2:=h.read;have h3:=hr _ h.rule;have h4:=h.le;have h5:=h.len;unfold di at h2;exact YF (by omega) (by omega) (by omega) (by omega)
def Done(R:List Ru)(tok:List Int)(st:aL)(it:aJ):Prop:=
 if it.read=(di R it).length then it.upto∈st.E ((R.getD it.rule (0,[])).1,it.fr)
 else if ((di R it).getD it.read (false,0)).1=false then it∈st.W (((di R it).getD it.read (false,0)).2,it.upto)
 else it.upto<tok.length/\tok.getD it.upto 0=((di R it).getD it.read (false,0)).2->bf it (it.upto+1)∈st.I
def Ag(R:List Ru)(st:aL)(s:bX):Prop:=∀q,q<R.length->(R.getD q (0,[])).1=s.1->(⟨q,0,s.2,s.2⟩:aJ)∈st.I
structure iG(R:List Ru)(tok:List Int)(X:aJ->Prop)(st:aL):Prop where
 ok:∀it∈st.I,gY R tok it
 sub:∀it∈st.O,it∈st.I
 tF:∀s it,it∈st.W s->it∈st.I/\it.read<(di R it).length/\(di R it).getD it.read (false,0)=(false,s.1)/\it.upto=s.2
 q8:∀s j,j∈st.E s->s.2<=j/\j<=tok.length/\lF R s.1 (part tok s.2 j)
 done:∀it∈st.I,it∉st.O->X it\/Done R tok st it
 meet:∀s it j,it∈st.W s->j∈st.E s->bf it j∈st.I
 begun:∀s,st.W s≠[]->Ag R st s
theorem Done.mono{st st':aL}{it:aJ}(h:Done R tok st it)(hI:∀x∈st.I,x∈st'.I)(hW:∀s,∀x∈st.W s,x∈st'.W s)(hE:∀s,∀x∈st.E s,x∈st'.E s):Done R tok st' it:=by
 unfold Done at h⊢;split
 ·rename_i h1;rw[if_pos h1]at h;exact hE _ _ h
 ·rename_i h1
  rw[if_neg h1]at h;split
  ·rename_i h2;rw[if_pos h2]at h;exact hW _ _ h
  ·rename_i h2;rw[if_neg h2]at h;exact fun h3=>hI _ (h h3)
theorem PY{A:Int->List Int->Prop}:∀{l m:List Sy} {Z Z':List Int},lD A l Z->lD A m Z'->lD A (l++m) (Z++Z'):=by
 intro l
 induction l with
 |nil=>intro m Z Z' h h';have e:Z=[]:=h;subst e;exact h'
 |cons s l ih=>
  intro m Z Z' h h';obtain⟨b,n⟩:=s;cases b with
  |true=>obtain⟨Y,h1,h2⟩:=h;exact⟨Y++Z',by rw[h1];rfl,ih h2 h'⟩
  |false=>obtain⟨Z1,Z2,h1,h2,h3⟩:=h;exact⟨Z1,Z2++Z',by rw[h1,List.append_assoc],h2,ih h3 h'⟩
theorem P5{l:List Sy}{k:Nat}(h:k<l.length):l.take (k+1)=l.take k++[l.getD k (false,0)]:=by
 rw[List.take_succ_eq_append_getElem h];simp[List.getD,h]
theorem J8{q:Nat}{i:Nat}(hq:q<R.length)(hi:i<=tok.length):gY R tok ⟨q,0,i,i⟩:=
 ⟨hq,Nat.zero_le _,Nat.le_refl _,hi,by simp only[List.take_zero];exact PS _ _⟩
theorem FO{it:aJ}(h:gY R tok it){n:Int}{j:Nat}(hr:it.read<(di R it).length)(hs:(di R it).getD it.read (false,0)=(false,n))(h1:it.upto<=j)(h2:j<=tok.length)(hd:lF R n (part tok it.upto j)):gY R tok (bf it j):=by
 refine⟨h.rule,hr,Nat.le_trans h.le h1,h2,?_⟩;show lD (lF R) ((di R it).take (it.read+1)) (part tok it.fr j);rw[P5 hr,hs,J7 h.le h1];exact PY h.seq ⟨_,[],by simp,hd,rfl⟩
theorem P6{it:aJ}(h:gY R tok it)(hr:it.read<(di R it).length)(hs:((di R it).getD it.read (false,0)).1=true)(h1:it.upto<tok.length)(h2:tok.getD it.upto 0=((di R it).getD it.read (false,0)).2):gY R tok (bf it (it.upto+1)):=by
 refine⟨h.rule,hr,Nat.le_succ_of_le h.le,h1,?_⟩;show lD (lF R) ((di R it).take (it.read+1)) (part tok it.fr (it.upto+1));rw[P5 hr,J7 h.le (Nat.le_succ _),PV (Nat.lt_succ_self _) h1,PS,h2];obtain⟨⟨b,v⟩,hx⟩:∃x,(di R it).getD it.read (false,0)=x:=⟨_,rfl⟩;rw[hx]at hs⊢;simp only at hs;subst hs;exact PY h.seq ⟨[],rfl,rfl⟩
theorem P7{it:aJ}(h:gY R tok it)(hr:it.read=(di R it).length):lF R (R.getD it.rule (0,[])).1 (part tok it.fr it.upto):=by
 have:=h.seq;rw[hr,List.take_length]at this;exact YD (by simp[List.getD,h.rule]) this
theorem iG.puts{X:aJ->Prop}{st st':aL}(h:iG R tok X st)(k:Puts (gY R tok) st st'):iG R tok X st':=by
 refine⟨fun it hi=> ?_,k.sub h.sub,fun s it hw=> ?_,fun s j hj=>h.q8 s j (by rw[<-k.E];exact hj),fun it hi ho=> ?_,fun s it j hw hj=> ?_,fun s hs q hq he=> ?_⟩
 ·rcases k.new it hi with h1|h1
  ·exact h.ok it h1
  ·exact h1
 ·rw[k.W]at hw
  obtain⟨a,b⟩:=h.tF s it hw;exact⟨k.mono _ a,b⟩
 ·obtain⟨a,b⟩:=k.back it hi ho
  rcases h.done it a b with h1|h1
  ·exact .inl h1
  ·exact .inr (h1.mono k.mono (fun s x hx=>by rw[k.W];exact hx) (fun s x hx=>by rw[k.E];exact hx))
 ·rw[k.W]at hw
  rw[k.E]at hj;exact k.mono _ (h.meet s it j hw hj)
 ·rw[k.W]at hs
  exact k.mono _ (h.begun s hs q hq he)
theorem iG.wait{it:aJ}{st:aL}(h:iG R tok (fun x=>x=it) st)(hit:it∈st.I){n:Int}(hr:it.read<(di R it).length)(hs:(di R it).getD it.read (false,0)=(false,n)):
 iG R tok (fun _=>False) (tC R (n,it.upto) it st):=by
 have hok:=h.ok it hit;obtain⟨st1,h1⟩:∃st1,(if st.W (n,it.upto)=[] then eF R (n,it.upto) R.length st else st)=st1:=⟨_,rfl⟩
 have hp1:Puts (gY R tok) st st1:=by
  rw[<-h1];split
  ·exact Puts.begin fun q hq _=>J8 hq hok.len
  ·exact Puts.refl _ _
 have hB:Ag R st1 (n,it.upto):=by
  rw[<-h1];split
  ·exact fun q hq he=>PX hq he
  ·rename_i hne
   exact h.begun _ hne
 have hc1:=h.puts hp1
 have hQ:∀j∈st.E (n,it.upto),gY R tok (bf it j):=fun j hj=>by
  obtain⟨a,b,c⟩:=h.q8 _ j hj;exact FO hok hr hs a b c
 have hp2:Puts (gY R tok) (gm (n,it.upto) it st1) (onE it (st.E (n,it.upto)) (gm (n,it.upto) it st1)):=Puts.onE hQ
 have hcond:∀s x,x∈(gm (n,it.upto) it st1).W s->x∈st1.W s\/(s=(n,it.upto)/\x=it):=by
  intro s x hx;unfold gm at hx;simp only at hx;by_cases e:s=(n,it.upto)
  ·rw[e,uS,List.mem_append,List.mem_singleton]at hx
   rcases hx with hx|hx
   ·rw[e];exact .inl hx
   ·exact .inr ⟨e,hx⟩
  ·rw[wO _ e]at hx
   exact .inl hx
 have hup:∀s x,x∈st1.W s->x∈(gm (n,it.upto) it st1).W s:=by
  intro s x hx;unfold gm;simp only;by_cases e:s=(n,it.upto)
  ·subst e;rw[uS];simp[hx]
  ·rw[wO _ e];exact hx
 have hin:it∈(gm (n,it.upto) it st1).W (n,it.upto):=by
  unfold gm;simp[uS]
 unfold tC;simp only[h1];obtain⟨oU,h3⟩:∃oU,onE it (st.E (n,it.upto)) (gm (n,it.upto) it st1)=oU:=⟨_,rfl⟩;have hmo:∀x∈st1.I,x∈oU.I:=by rw[<-h3];exact hp2.mono
 have hW3:oU.W=(gm (n,it.upto) it st1).W:=by rw[<-h3];exact hp2.W
 have wQ:oU.E=st1.E:=by rw[<-h3];exact hp2.E
 have hme:∀j∈st.E (n,it.upto),bf it j∈oU.I:=fun j hj=>by rw[<-h3];exact YK hj
 have hback:=hp2.back;have hnew:=hp2.new;have hsub:=hp2.sub hc1.sub;rw[h3]at hback hnew hsub⊢;refine⟨fun x hx=> ?_,hsub,fun s x hx=> ?_,fun s j hj=>hc1.q8 s j (by rw[<-wQ];exact hj),fun x hx ho=> ?_,fun s x j hx hj=> ?_,fun s hs' q hq he=> ?_⟩
 ·rcases hnew x hx with h4|h4
  ·exact hc1.ok x h4
  ·exact h4
 ·rw[hW3]at hx
  rcases hcond s x hx with h4|⟨rfl,rfl⟩
  ·obtain⟨a,b⟩:=hc1.tF s x h4
   exact⟨hmo _ a,b⟩
  ·exact⟨hmo _ (hp1.mono _ hit),hr,hs,rfl⟩
 ·right
  obtain⟨a,b⟩:=hback x hx ho;rcases hc1.done x a b with h4|h4
  ·subst h4
   unfold Done;rw[if_neg (by omega),hs];simp only[if_true];rw[hW3];exact hin
  ·exact h4.mono hmo (fun s x hx=>by rw[hW3];exact hup s x hx) (fun s x hx=>by rw[wQ];exact hx)
 ·rw[hW3]at hx
  rw[wQ]at hj;rcases hcond s x hx with h4|⟨rfl,rfl⟩
  ·exact hmo _ (hc1.meet s x j h4 hj)
  ·rw[hp1.E]at hj
   exact hme j hj
 ·rw[hW3]at hs'
  by_cases e:s=(n,it.upto)
  ·subst e;exact hmo _ (hB q hq he)
  ·unfold gm at hs'
   simp only at hs';rw[wO _ e]at hs';exact hmo _ (hc1.begun s hs' q hq he)
theorem iG.YM{it:aJ}{st:aL}(h:iG R tok (fun x=>x=it) st)(hit:it∈st.I)(hr:it.read=(di R it).length):
 iG R tok (fun _=>False) (wP ((R.getD it.rule (0,[])).1,it.fr) it.upto st):=by
 have hok:=h.ok it hit;have hd:=P7 hok hr;obtain⟨n,hn⟩:∃n,(R.getD it.rule (0,[])).1=n:=⟨_,rfl⟩;rw[hn]at hd;unfold wP;rw[hn];split
 ·rename_i hin
  refine⟨h.ok,h.sub,h.tF,h.q8,fun x hx ho=> ?_,h.meet,h.begun⟩;rcases h.done x hx ho with rfl|h4
  ·right
   unfold Done;rw[if_pos hr,hn];exact hin
  ·exact .inr h4
 ·have hQ:∀x∈st.W (n,it.fr),gY R tok (bf x it.upto):=fun x hx=>by
   obtain⟨a,b,c,d⟩:=h.tF _ x hx;have e:x.upto=it.fr:=d;exact FO (h.ok x a) b c (by rw[e];exact hok.le) hok.len (by rw[e];exact hd)
  have hp2:Puts (gY R tok) (gX (n,it.fr) it.upto st) (iN it.upto (st.W (n,it.fr)) (gX (n,it.fr) it.upto st)):=Puts.iN hQ
  have hcond:∀s j,j∈(gX (n,it.fr) it.upto st).E s->j∈st.E s\/(s=(n,it.fr)/\j=it.upto):=by
   intro s x hx;unfold gX at hx;simp only at hx;by_cases e:s=(n,it.fr)
   ·rw[e,uS,List.mem_append,List.mem_singleton]at hx
    rcases hx with hx|hx
    ·rw[e];exact .inl hx
    ·exact .inr ⟨e,hx⟩
   ·rw[wO _ e]at hx
    exact .inl hx
  have hup:∀s j,j∈st.E s->j∈(gX (n,it.fr) it.upto st).E s:=by
   intro s x hx;unfold gX;simp only;by_cases e:s=(n,it.fr)
   ·subst e;rw[uS];simp[hx]
   ·rw[wO _ e];exact hx
  have hin:it.upto∈(gX (n,it.fr) it.upto st).E (n,it.fr):=by
   unfold gX;simp[uS]
  obtain⟨oU,h3⟩:∃oU,iN it.upto (st.W (n,it.fr)) (gX (n,it.fr) it.upto st)=oU:=⟨_,rfl⟩;have hmo:∀x∈st.I,x∈oU.I:=by rw[<-h3];exact hp2.mono
  have wQ:oU.E=(gX (n,it.fr) it.upto st).E:=by rw[<-h3];exact hp2.E
  have hW3:oU.W=st.W:=by rw[<-h3];exact hp2.W
  have hme:∀x∈st.W (n,it.fr),bf x it.upto∈oU.I:=fun x hx=>by rw[<-h3];exact YL hx
  have hback:=hp2.back;have hnew:=hp2.new;have hsub:=hp2.sub h.sub;rw[h3]at hback hnew hsub⊢;refine⟨fun x hx=> ?_,hsub,fun s x hx=> ?_,fun s j hj=> ?_,fun x hx ho=> ?_,fun s x j hx hj=> ?_,fun s hs' q hq he=> ?_⟩
  ·rcases hnew x hx with h4|h4
   ·exact h.ok x h4
   ·exact h4
  ·rw[hW3]at hx
   obtain⟨a,b⟩:=h.tF s x hx;exact⟨hmo _ a,b⟩
  ·rw[wQ]at hj
   rcases hcond s j hj with h4|⟨rfl,rfl⟩
   ·exact h.q8 s j h4
   ·exact⟨hok.le,hok.len,hd⟩
  ·right
   obtain⟨a,b⟩:=hback x hx ho;rcases h.done x a b with h4|h4
   ·subst h4
    unfold Done;rw[if_pos hr,hn,wQ];exact hin
   ·exact h4.mono hmo (fun s x hx=>by rw[hW3];exact hx) (fun s x hx=>by rw[wQ];exact hup s x hx)
  ·rw[hW3]at hx
   rw[wQ]at hj;rcases hcond s j hj with h4|⟨rfl,rfl⟩
   ·exact hmo _ (h.meet s x j hx h4)
   ·exact hme x hx
  ·rw[hW3]at hs'
   exact hmo _ (h.begun s hs' q hq he)
theorem iG.look{it:aJ}{st:aL}(h:iG R tok (fun x=>x=it) st)(hit:it∈st.I):iG R tok (fun _=>False) (iF R tok it st):=by
 have hok:=h.ok it hit;have hread:=hok.read;unfold iF;split
 ·rename_i hr
  exact h.YM hit hr
 ·rename_i hr
  have hr':it.read<(di R it).length:=by unfold di at hread⊢;omega
  split
  ·rename_i hs
   refine h.wait hit hr' ?_;unfold di;exact Prod.ext hs rfl
  ·rename_i hs
   have hs':((di R it).getD it.read (false,0)).1=true:=by unfold di;simpa using hs
   split
   ·rename_i hc
    have hp:Puts (gY R tok) st (dV st (bf it (it.upto+1))):=Puts.put (P6 hok hr' hs' hc.1 hc.2);have:=h.puts hp;refine⟨this.ok,this.sub,this.tF,this.q8,fun x hx ho=> ?_,this.meet,this.begun⟩;right;rcases this.done x hx ho with rfl|h4
    ·unfold Done
     rw[if_neg (by omega),if_neg (by rw[hs'];simp)];exact fun _=>FN _ _
    ·exact h4
   ·rename_i hc
    refine⟨h.ok,h.sub,h.tF,h.q8,fun x hx ho=> ?_,h.meet,h.begun⟩;right;rcases h.done x hx ho with rfl|h4
    ·unfold Done
     rw[if_neg (by omega),if_neg (by rw[hs'];simp)];exact fun hc'=>absurd hc' hc
    ·exact h4
theorem iG.find{st:aL}(h:iG R tok (fun _=>False) st)(hO:st.O=[]):∀k (s:bX) (j:Nat),Ag R st s->s.2<=j->j<=tok.length->tu R k s.1 (part tok s.2 j)->j∈st.E s:=by
 have hdone:∀it∈st.I,Done R tok st it:=fun it hi=>by
  rcases h.done it hi (by rw[hO];simp) with h1|h1
  ·exact h1.elim
  ·exact h1
 intro k
 induction k with
 |zero=>intro s j _ _ _ hd;exact hd.elim
 |succ k ih=>
  have inner:∀(m:Nat) (it:aJ),it∈st.I->(di R it).length-it.read=m->∀j,it.upto<=j->j<=tok.length->lD (tu R k) ((di R it).drop it.read) (part tok it.upto j)->j∈st.E ((R.getD it.rule (0,[])).1,it.fr):=by
   intro m
   induction m with
   |zero=>
    intro it hi hm j h1 h2 hd;have hread:=(h.ok it hi).read;have he:it.read=(di R it).length:=by omega
    rw[he,List.drop_length]at hd;have hd':part tok it.upto j=[]:=hd;have hl:=FM (tok:=tok) h1 h2;rw[hd']at hl;simp only[List.length_nil]at hl;have hj:j=it.upto:=by omega
    subst hj;have:=hdone it hi;unfold Done at this;rw[if_pos he]at this;exact this
   |succ m P8=>
    intro it hi hm j h1 h2 hd;have hr:it.read<(di R it).length:=by omega
    rw[List.drop_eq_getElem_cons hr]at hd;have hg:(di R it)[it.read]=(di R it).getD it.read (false,0):=by simp[List.getD,hr]
    rw[hg]at hd;have hDn:=hdone it hi;unfold Done at hDn;rw[if_neg (by omega)]at hDn;obtain⟨⟨b,v⟩,hsy⟩:∃x,(di R it).getD it.read (false,0)=x:=⟨_,rfl⟩;rw[hsy]at hd hDn;cases b with
    |true=>
     rw[if_neg (by simp)]at hDn;obtain⟨Z',e1,e2⟩:=hd;have hl:=FM (tok:=tok) h1 h2;rw[e1]at hl;simp only[List.length_cons]at hl;have hlt:it.upto<j:=by omega
     rw[PV hlt h2]at e1;simp only[List.cons.injEq]at e1;obtain⟨e3,rfl⟩:=e1;have hin:=hDn ⟨by omega,e3⟩;exact P8 (bf it (it.upto+1)) hin (by show (di R it).length-(it.read+1)=m;omega) j hlt h2 e2
    |false=>
     rw[if_pos rfl]at hDn;obtain⟨Z1,Z2,e1,e2,e3⟩:=hd;obtain⟨a1,a2,a3⟩:=YE h1 h2 e1;rw[a2]at e2;rw[a3]at e3
     have hW:st.W (v,it.upto)≠[]:=fun e=>by
      have h5:it∈st.W (v,it.upto):=hDn;rw[e]at h5;cases h5
     have hj:=ih (v,it.upto) (it.upto+Z1.length) (h.begun _ hW) (by show it.upto<=_;omega) (by omega) (by simpa using e2);have hin:=h.meet _ it _ hDn hj;exact P8 (bf it (it.upto+Z1.length)) hin (by show (di R it).length-(it.read+1)=m;omega) j a1 h2 e3
  rintro s j hb h1 h2 ⟨r,hr,he,hd⟩;obtain⟨q,hq,hqe⟩:=List.getElem_of_mem hr;have hg:R.getD q (0,[])=r:=by simp[List.getD,hq,hqe]
  have hin:=hb q hq (by rw[hg];exact he)
  have:=inner _ ⟨q,0,s.2,s.2⟩ hin rfl j h1 h2 (by
   show lD (tu R k) ((di R ⟨q,0,s.2,s.2⟩).drop 0) (part tok s.2 j);unfold di;rw[List.drop_zero];simp only;rw[hg]
   exact hd)
  simp only at this;rw[hg,he]at this;exact this
theorem iG.tells{st:aL}(h:iG R tok (fun _=>False) st)(hO:st.O=[])(hb:Ag R st (0,0)):tok.length∈st.E (0,0)↔lF R 0 tok:=by
 constructor
 ·intro hj
  have:=(h.q8 _ _ hj).2.2;rw[PU]at this;exact this
 ·rintro ⟨k,hk⟩
  exact h.find hO k (0,0) tok.length hb (Nat.zero_le _) (Nat.le_refl _) (by simp only;rw[PU];exact hk)
structure q9(st:aL):Prop where
 cnt:st.c+st.O.length=st.I.length
 fit:st.I.length+mU st.I<=345960
 wl:∀s,(st.W s).length<=st.c
 el:∀s,(st.E s).length<=st.c
theorem q9.puts{Q:aJ->Prop}{st st':aL}(h:q9 st)(k:Puts Q st st')(hQ:∀x,Q x->x∈oQ):q9 st':=
 ⟨by have:=h.cnt;have:=k.cnt;have:=k.c;omega,Nat.le_trans (k.fit hQ) h.fit,fun s=>by rw[k.W,k.c];exact h.wl s,fun s=>by rw[k.E,k.c];exact h.el s⟩
def jl(st:aL):aL:={ st with O:=st.O.dropLast,c:=st.c+1 }
def dJ(st:aL):aJ:=st.O.getD (st.O.length-1) ⟨0,0,0,0⟩
theorem P9{st:aL}(h:0<st.O.length):st.O=st.O.dropLast++[dJ st]:=by
 have hne:st.O≠[]:=fun e=>by rw[e]at h;simp at h
 have e:dJ st=st.O.getLast hne:=by
  unfold dJ;rw[List.getLast_eq_getElem];simp[List.getD,show st.O.length-1<st.O.length by omega]
 rw[e];exact(List.dropLast_concat_getLast hne).symm
theorem iG.pop{st:aL}(h:iG R tok (fun _=>False) st)(hO:0<st.O.length):dJ st∈st.I/\iG R tok (fun x=>x=dJ st) (jl st):=by
 have e:=P9 hO;refine⟨h.sub _ (by rw[e];simp),h.ok,fun x hx=>h.sub x (by rw[e];exact List.mem_append_left _ hx),h.tF,h.q8,fun x hx ho=> ?_,h.meet,h.begun⟩;by_cases hx':x=dJ st
 ·exact .inl hx'
 ·rcases h.done x hx (by rw[e];simp only[List.mem_append,List.mem_singleton,not_or];exact⟨ho,hx'⟩) with h1|h1
  ·exact h1.elim
  ·exact .inr h1
theorem Qa{α:Type}{f:bX->List α}{s t:bX}{x:α}{c:Nat}(h:∀s,(f s).length<=c):(eB f s (f s++[x]) t).length<=c+1:=by
 by_cases e:t=s
 ·subst e;rw[uS];have:=h t;simp;omega
 ·rw[wO _ e];have:=h t;omega
structure Less(st st':aL):Prop where
 bnd:q9 st'
 less:2*mU st'.I+st'.O.length<2*mU st.I+st.O.length
 mono:∀x∈st.I,x∈st'.I
 c:st'.c=st.c+1
theorem CR{st st':aL}{O:List aJ}(h:q9 st)(hO:st.O.length=O.length+1)(hI:st'.I.length+mU st'.I<=st.I.length+mU st.I)(hc:st'.c=st.c+1)(hl:st'.O.length+st.I.length=O.length+st'.I.length)
 (hw:∀s,(st'.W s).length<=st.c+1) (he:∀s,(st'.E s).length<=st.c+1) (hm:∀x∈st.I,x∈st'.I) (hle:st.I.length<=st'.I.length):Less st st':=by
 have:=h.cnt;have:=h.fit;exact⟨⟨by omega,by omega,fun s=>by rw[hc];exact hw s,fun s=>by rw[hc];exact he s⟩,by omega,hm,hc⟩
theorem YN{st:aL}(hb:q9 st)(h:iG R tok (fun _=>False) st)(hO:0<st.O.length)(hall:∀it,gY R tok it->it∈oQ):Less st (iF R tok (dJ st) (jl st)):=by
 obtain⟨hit,hc⟩:=h.pop hO;have hok:=h.ok _ hit;have hread:=hok.read;have Ah:st.O.length=st.O.dropLast.length+1:=by simp;omega
 have hW:=hb.wl;have hE:=hb.el;unfold iF;split
 ·rename_i hr
  have hd:=P7 hok hr;unfold wP;split
  ·exact CR hb Ah (Nat.le_refl _) rfl rfl (fun s=>Nat.le_succ_of_le (hW s)) (fun s=>Nat.le_succ_of_le (hE s)) (fun _ h=>h) (Nat.le_refl _)
  ·have hp:=Puts.iN (Q:=gY R tok) (j:=(dJ st).upto) (L:=(jl st).W ((R.getD (dJ st).rule (0,[])).1,(dJ st).fr)) (st:=gX ((R.getD (dJ st).rule (0,[])).1,(dJ st).fr) (dJ st).upto (jl st)) fun x hx=>by
    obtain⟨a,b,c,d⟩:=hc.tF _ x hx;have e:x.upto=(dJ st).fr:=d;exact FO (hc.ok x a) b c (by rw[e];exact hok.le) hok.len (by rw[e];exact hd)
   exact CR hb Ah (hp.fit hall) hp.c hp.cnt (fun s=>by rw[hp.W];exact Nat.le_succ_of_le (hW s)) (fun s=>by rw[hp.E];exact Qa hE) hp.mono hp.len
 ·rename_i hr
  have hr':(dJ st).read<(di R (dJ st)).length:=by unfold di at hread⊢;omega
  split
  ·rename_i hs
   obtain⟨st1,h1⟩:∃st1,(if (jl st).W (((R.getD (dJ st).rule (0,[])).2.getD (dJ st).read (false,0)).2,(dJ st).upto)=[] then eF R (((R.getD (dJ st).rule (0,[])).2.getD (dJ st).read (false,0)).2,(dJ st).upto) R.length (jl st) else jl st)=st1:=⟨_,rfl⟩
   have hp1:Puts (gY R tok) (jl st) st1:=by
    rw[<-h1];split
    ·exact Puts.begin fun q hq _=>J8 hq hok.len
    ·exact Puts.refl _ _
   unfold tC;simp only[h1]
   have hp:=Puts.onE (Q:=gY R tok) (it:=dJ st) (L:=(jl st).E (((R.getD (dJ st).rule (0,[])).2.getD (dJ st).read (false,0)).2,(dJ st).upto)) (st:=gm (((R.getD (dJ st).rule (0,[])).2.getD (dJ st).read (false,0)).2,(dJ st).upto) (dJ st) st1) fun j hj=>by
    obtain⟨a,b,c⟩:=hc.q8 _ j hj;exact FO hok hr' (Prod.ext hs rfl) a b c
   have f1:=hp1.fit hall;have f2:=hp.fit hall;have n1:=hp1.cnt;have n2:=hp.cnt
   exact CR hb Ah (Nat.le_trans f2 f1) (hp.c.trans hp1.c) (by have e1:(jl st).O=st.O.dropLast:=rfl;have e2:(jl st).I=st.I:=rfl;rw[e1,e2]at n1;have e3:∀s,(gm s (dJ st) st1).O=st1.O:=fun _=>rfl;have e4:∀s,(gm s (dJ st) st1).I=st1.I:=fun _=>rfl;rw[e3,e4]at n2;omega)
    (fun s=>by
      rw[hp.W];have:∀s,(st1.W s).length<=st.c:=fun s=>by rw[hp1.W];exact hW s
      exact Qa this) (fun s=>by rw[hp.E];show (st1.E s).length<=_;rw[hp1.E];exact Nat.le_succ_of_le (hE s)) (fun x hx=>hp.mono x (hp1.mono x hx)) (Nat.le_trans hp1.len hp.len)
  ·rename_i hs
   have hs':((di R (dJ st)).getD (dJ st).read (false,0)).1=true:=by unfold di;simpa using hs
   split
   ·rename_i hcd
    have hp:Puts (gY R tok) (jl st) (dV (jl st) (bf (dJ st) ((dJ st).upto+1))):=Puts.put (P6 hok hr' hs' hcd.1 hcd.2);exact CR hb Ah (hp.fit hall) hp.c hp.cnt (fun s=>by rw[hp.W];exact Nat.le_succ_of_le (hW s)) (fun s=>by rw[hp.E];exact Nat.le_succ_of_le (hE s)) hp.mono hp.len
   ·exact CR hb Ah (Nat.le_refl _) rfl rfl (fun s=>Nat.le_succ_of_le (hW s)) (fun s=>Nat.le_succ_of_le (hE s)) (fun _ h=>h) (Nat.le_refl _)
def cs0:aL:=⟨[],[],fun _=>[],fun _=>[],0⟩
theorem Qb(R:List Ru)(tok:List Int):iG R tok (fun _=>False) (eF R (0,0) R.length cs0)/\Ag R (eF R (0,0) R.length cs0) (0,0)/\Puts (gY R tok) cs0 (eF R (0,0) R.length cs0):=by
 have hp:Puts (gY R tok) cs0 (eF R (0,0) R.length cs0):=Puts.begin fun q hq _=>J8 hq (Nat.zero_le _);have h0:iG R tok (fun _=>False) cs0:=⟨fun _ h=>(by cases h),fun _ h=>(by cases h),fun _ _ h=>(by cases h),fun _ _ h=>(by cases h),fun _ h=>(by cases h),fun _ _ _ h=>(by cases h),fun _ h=>absurd rfl h⟩;exact⟨h0.puts hp,fun q hq he=>PX hq he,hp⟩
theorem YO{R:List Ru}{tok:List Int}(hall:∀it,gY R tok it->it∈oQ):q9 (eF R (0,0) R.length cs0):=by
 have h1:mU cs0.I<=345960:=by
  unfold mU;rw[<-YH];exact List.length_filter_le _ _
 have h0:q9 cs0:=⟨rfl,by rw[show cs0.I.length=0 from rfl,Nat.zero_add];exact h1,fun _=>Nat.le_refl _,fun _=>Nat.le_refl _⟩;exact h0.puts (Qb R tok).2.2 hall
end
end Go.Proofs.YtblkkhfdeaaidaaGreatDoor
namespace Go.Proofs.YtblkkhfdeaaidaaGreatDoor
open Go.RowKit Go.MapKept
open Go.ChangeMaps (setBlock heap_setBlock_same heap_setBlock_other modify_eq_set)
open Go.WideMaps (KeyLaw)
open Go.WideElems (Fit rd rd_mk other_key entry_then_store)
section
variable{κ:Type}{P:Program}{k:TypeId}{enc:κ->Value}
structure CS(P:Program)(k:TypeId)(enc:κ->Value)(es:Array MapEntry)(clock n:Nat)(M:κ->Option Value):Prop where
 stamped:Stamped es clock
 size:es.size<=n
 keys:∀x∈es.toList,∃l,keyOf P k x.key=some l
 here:∀x∈es.toList,∃s,x.key=enc s/\M s=some x.val
 all:∀s v,M s=some v->∃x∈es.toList,x.key=enc s
def MapAt(P:Program)(k:TypeId)(enc:κ->Value)(w:World)(b n:Nat)(M:κ->Option Value):Prop:=
 ∃es clock,w.heap[b]?=some (.map es clock)/\CS P k enc es clock n M
def eT[DecidableEq κ](M:κ->Option Value)(s:κ)(v:Value):κ->Option Value:=fun t=>if t=s then some v else M t
theorem CS.fit{es:Array MapEntry}{clock n:Nat}{M:κ->Option Value}(h:CS P k enc es clock n M)(hn:n<=maxLen):Fit (H:=Unit) P k (fun _=>some (.nil,[])) es clock:=
 ⟨Nat.le_trans h.size hn,h.stamped,fun x hx=>by obtain⟨l,hl⟩:=h.keys x hx;exact⟨_,rd_mk (born:=x.born) hl rfl⟩⟩
theorem MapAt.lt{w:World}{b n:Nat}{M:κ->Option Value}(h:MapAt P k enc w b n M):b<w.heap.size:=by
 obtain⟨es,clock,hb,_⟩:=h;exact(Array.getElem?_eq_some_iff.1 hb).1
theorem MapAt.kept{w w':World}{b n:Nat}{M:κ->Option Value}(h:MapAt P k enc w b n M)(hb:w'.heap[b]?=w.heap[b]?):MapAt P k enc w' b n M:=by
 obtain⟨es,clock,h1,h2⟩:=h;exact⟨es,clock,hb.trans h1,h2⟩
theorem MapAt.alloc{w:World}{b n:Nat}{M:κ->Option Value}(h:MapAt P k enc w b n M)(o:Obj):MapAt P k enc (w.alloc o) b n M:=
 h.kept ((World.grownBy_alloc w o none).block b h.lt (by simp))
theorem MapAt.mono{w:World}{b n n':Nat}{M:κ->Option Value}(h:MapAt P k enc w b n M)(hn:n<=n'):MapAt P k enc w b n' M:=by
 obtain⟨es,clock,h1,h2⟩:=h;exact⟨es,clock,h1,⟨h2.stamped,Nat.le_trans h2.size hn,h2.keys,h2.here,h2.all⟩⟩
theorem MapAt.congr{w:World}{b n:Nat}{M M':κ->Option Value}(h:MapAt P k enc w b n M)(e:M=M'):MapAt P k enc w b n M':=e▸h
theorem CU(w:World)(P:Program)(k:TypeId)(enc:κ->Value):MapAt P k enc (w.alloc (.map #[] 0)) w.heap.size 0 (fun _=>none):=
 ⟨#[],0,(MapKept.heap_alloc w _).1,stamped_empty 0,by simp,by simp,by simp,fun _ _ h=>by cases h⟩
theorem CV{w:World}{b n:Nat}{M:κ->Option Value}(h:MapAt P k enc w b n M)(c:Bool)(hn:n<=maxLen)(K:KeyLaw P k){t e:TypeId}(ht:P.underlying t=some (.map k e)){z:Value}(hz:(zeroValue e).run P w= .ok z w)
 (inj:∀s s',enc s=enc s'->s=s') {s:κ} {kl:Lit} (hkey:keyOf P k (enc s)=some kl):
 (Instr.lookup t (.map (some b)) (enc s) c).run P w= .ok (if c then .tuple #[(M s).getD z,.bool (M s).isSome] else (M s).getD z) w:=by
 obtain⟨es,clock,hb,hM⟩:=h;rcases Maps.fit_look c (Maps.Keyed.of_law K) ht hz hb (hM.fit hn) hkey with⟨hrun,hno,_⟩|⟨e0,y,hmem,hk0,hrun,_⟩
 ·have:M s=none:=by
   cases hs:M s with
   |none=>rfl
   |some v=>
    obtain⟨x,hx,hxk⟩:=hM.all s v hs;exact absurd hxk (hno x hx)
  rw[hrun,this];rfl
 ·obtain⟨s',h1,h2⟩:=hM.here e0 hmem
  have:s=s':=inj _ _ (hk0.symm.trans h1);subst this;rw[hrun,h2];rfl
variable[DecidableEq κ]
theorem Qc{w:World}{b n:Nat}{M:κ->Option Value}{es:Array MapEntry}{clock:Nat}(hb:w.heap[b]?=some (.map es clock))(hM:CS P k enc es clock n M)(K:KeyLaw P k){t e:TypeId}(ht:P.underlying t=some (.map k e))
 (inj:∀s s',enc s=enc s'->s=s') {s:κ} {kl:Lit} (hkey:keyOf P k (enc s)=some kl) (val:Value):
 ∃es' clock',(Instr.mapUpdate t (.map (some b)) (enc s) val).run P w= .ok () (setBlock w b (.map es' clock'))/\CS P k enc es' clock' (n+1) (eT M s val):=by
 rcases K.find w hkey es.toList hM.keys with⟨h1,h2⟩|⟨j,e0,h1,h2,h3⟩
 ·refine⟨es.push ⟨enc s,val,clock⟩,clock+1,?_,stamped_push hM.stamped h2,?_,?_,?_,?_⟩
  ·simp[Instr.mapUpdate,run_underlying ht,MapKept.run_getObj_map hb,K.check w false hkey,h1,MapKept.run_setObj_map _ hb,Result.andThen,setBlock]
  ·have:=hM.size;simp;omega
  ·intro x hx
   simp only[Array.toList_push,List.mem_append,List.mem_singleton]at hx;rcases hx with hx|rfl
   ·exact hM.keys x hx
   ·exact⟨_,hkey⟩
  ·intro x hx
   simp only[Array.toList_push,List.mem_append,List.mem_singleton]at hx;rcases hx with hx|rfl
   ·obtain⟨s',a,b⟩:=hM.here x hx
    have hne:s'≠s:=fun e=>h2 x hx (by rw[a,e]);exact⟨s',a,by simp[eT,hne,b]⟩
   ·exact⟨s,rfl,by simp[eT]⟩
  ·intro s' v hv
   by_cases e1:s'=s
   ·subst e1
    exact⟨⟨enc s',val,clock⟩,by simp,rfl⟩
   ·simp only[eT,e1,if_false]at hv
    obtain⟨x,hx,hk⟩:=hM.all s' v hv;exact⟨x,by simp[hx],hk⟩
 ·have hj:es[j]?=some e0:=by simpa using h2
  have hjl:j<es.toList.length:=(List.getElem?_eq_some_iff.1 h2).1;have hkeyf:∀e',es[j]?=some e'->({ e' with key:=enc s,val:=val }:MapEntry).key=e'.key:=fun e' he'=>by rw[hj]at he';cases he';exact h3.symm
  have hlist:(es.modify j (fun e'=>{ e' with key:=enc s,val:=val })).toList=es.toList.set j { e0 with key:=enc s,val:=val }:=by rw[Array.toList_modify,modify_eq_set _ _ _ _ h2]
  have hpw:=((stamped_iff es clock).1 hM.stamped).2.2
  have who:∀x∈es.toList.set j { e0 with key:=enc s,val:=val },x={ e0 with key:=enc s,val:=val }\/(x∈es.toList/\x.key≠enc s):=by
   intro x hx;obtain⟨i,hi,ex⟩:=List.getElem_of_mem hx;rw[List.getElem_set]at ex;split at ex
   ·exact Or.inl ex.symm
   ·rename_i hne
    have hi':i<es.toList.length:=by simpa using hi
    refine Or.inr ⟨ex▸List.getElem_mem hi',?_⟩
    have ej:es.toList[j]=e0:=by
     have:=List.getElem?_eq_getElem hjl;rw[h2]at this;exact(Option.some.inj this).symm
    have hd:es.toList[i].key≠es.toList[j].key:=by
     rcases Nat.lt_or_ge i j with h|h
     ·exact List.pairwise_iff_getElem.1 hpw i j hi' hjl h
     ·exact fun e1=>List.pairwise_iff_getElem.1 hpw j i hjl hi' (by omega) e1.symm
    rw[ej]at hd;rw[<-h3,<-ex];exact hd
  refine⟨es.modify j (fun e'=>{ e' with key:=enc s,val:=val }),clock,?_,stamped_modify hM.stamped _ _ (fun _ _=>rfl) (fun e' _ he'=>hkeyf e' he'),?_,?_,?_,?_⟩
  ·simp[Instr.mapUpdate,run_underlying ht,MapKept.run_getObj_map hb,K.check w false hkey,h1,hj,h3,K.stays w hkey,MapKept.run_setObj_map _ hb,Result.andThen,setBlock]
  ·have:=hM.size;simp;omega
  ·intro x hx
   rw[hlist]at hx;rcases who x hx with rfl|⟨hx',hne⟩
   ·exact⟨_,hkey⟩
   ·exact hM.keys x hx'
  ·intro x hx
   rw[hlist]at hx;rcases who x hx with rfl|⟨hx',hne⟩
   ·exact⟨s,rfl,by simp[eT]⟩
   ·obtain⟨s',a,b⟩:=hM.here x hx'
    have hs:s'≠s:=fun e=>hne (by rw[a,e]);exact⟨s',a,by simp[eT,hs,b]⟩
  ·intro s' v hv
   rw[hlist];by_cases e1:s'=s
   ·subst e1
    exact⟨{ e0 with key:=enc s',val:=val },List.mem_iff_getElem.2 ⟨j,by simpa using hjl,by simp⟩,rfl⟩
   ·simp only[eT,e1,if_false]at hv
    obtain⟨x,hx,hk⟩:=hM.all s' v hv;obtain⟨i,hi,ex⟩:=List.getElem_of_mem hx
    have hij:j≠i:=fun e2=>by
     subst e2;have:=List.getElem?_eq_getElem hi;rw[h2]at this;have ej:=Option.some.inj this;rw[<-ex,<-ej,h3]at hk;exact e1 (inj _ _ hk).symm
    exact⟨x,List.mem_iff_getElem.2 ⟨i,by simpa using hi,by rw[List.getElem_set_ne hij];exact ex⟩,hk⟩
theorem J9{w:World}{b:Nat}{es:Array MapEntry}{clock:Nat}(hb:w.heap[b]?=some (.map es clock))(o:Obj):w.grownBy (setBlock w b o) (some b):=
 ⟨rfl,rfl,rfl,by simp[setBlock],fun i _ hi=>heap_setBlock_other hb _ (fun e=>hi (by rw[e]))⟩
theorem Ka{w:World}{b n:Nat}{M:κ->Option Value}(h:MapAt P k enc w b n M)(K:KeyLaw P k){t e:TypeId}(ht:P.underlying t=some (.map k e))
 (inj:∀s s',enc s=enc s'->s=s') {s:κ} {kl:Lit} (hkey:keyOf P k (enc s)=some kl) (val:Value):
 ∃w',(Instr.mapUpdate t (.map (some b)) (enc s) val).run P w= .ok () w'/\MapAt P k enc w' b (n+1) (eT M s val)/\w.grownBy w' (some b)/\w'.heap.size=w.heap.size:=by
 obtain⟨es,clock,hb,hM⟩:=h;obtain⟨es',clock',h1,h2⟩:=Qc hb hM K ht inj hkey val;exact⟨_,h1,⟨es',clock',heap_setBlock_same hb _,h2⟩,J9 hb _,by simp[setBlock]⟩
theorem Qd{w:World}{b n:Nat}{M:κ->Option Value}(h:MapAt P k enc w b n M)(hn:n<=maxLen)(K:KeyLaw P k){t e:TypeId}(ht:P.underlying t=some (.map k e)){z:Value}(hz:∀u:World,(zeroValue e).run P u= .ok z u)
 (inj:∀s s',enc s=enc s'->s=s') {s:κ} {kl:Lit} (hkey:keyOf P k (enc s)=some kl):
 ∃(st:Nat) (w1:World),(Instr.mapEntry t (.map (some b)) (enc s)).run P w= .ok (.tuple #[(M s).getD z,goInt st]) w1/\w.grownBy w1 (some b)/\w1.heap.size=w.heap.size/\
  ∀(w2:World) (val:Value),w2.heap[b]?=w1.heap[b]?->∃w3,(Instr.entryStore t (.map (some b)) (goInt st) val).run P w2= .ok () w3/\MapAt P k enc w3 b (n+1) (eT M s val)/\w2.grownBy w3 (some b)/\w3.heap.size=w2.heap.size:=by
 obtain⟨es,clock,hb,hM⟩:=h;obtain⟨v0,st,es1,clock1,hrun,hv0,hst⟩:=entry_then_store K ht hz hb (hM.fit hn) hkey
 have hv:v0=(M s).getD z:=by
  rcases hv0 with⟨e0,hm,hk0,rfl⟩|⟨hno,rfl⟩
  ·obtain⟨s',a,b⟩:=hM.here e0 hm
   have:s=s':=inj _ _ (hk0.symm.trans a);subst this;rw[b];rfl
  ·cases hs:M s with
   |none=>rfl
   |some v=>
    obtain⟨x,hx,hxk⟩:=hM.all s v hs;exact absurd hxk (hno x hx)
 subst hv;refine⟨st,_,hrun,J9 hb _,by simp[setBlock],fun w2 val hw2=> ?_⟩;rw[heap_setBlock_same hb]at hw2;obtain⟨es',clock',h1,h2⟩:=hst w2 val hw2;obtain⟨es2,clock2,h3,h4⟩:=Qc hb hM K ht inj hkey val;rw[h2]at h3
 have h5:setBlock w b (.map es' clock')=setBlock w b (.map es2 clock2):=by
  injection h3
 have h6:(Obj.map es' clock')= .map es2 clock2:=by
  have a:=heap_setBlock_same hb (.map es' clock');rw[h5,heap_setBlock_same hb]at a;exact(Option.some.inj a).symm
 injection h6 with h7 h8;subst h7;subst h8;exact⟨_,h1,⟨_,_,heap_setBlock_same hw2 _,h4⟩,J9 hw2 _,by simp[setBlock]⟩
end
section
variable{w w':World}
theorem Qe{base:Nat}{e:TypeId}{size n:Nat}{x:Value}{xs:List Value}(h:w.ownsRow base e size x n xs)(hh:∀g,x.ownBlock=some g->w'.heap[g]?=w.heap[g]?):w'.ownsRow base e size x n xs:=by
 refine⟨h.1,?_⟩;rcases h.2 with h2|⟨g,cap,cur,rfl,h2,h3,h4⟩
 ·exact .inl h2
 ·exact .inr ⟨g,cap,cur,rfl,h2,(hh g rfl).trans h3,h4⟩
theorem CW{base:Nat}{e:TypeId}{size n:Nat}{x:Value}{xs:List Value}(h:w.ownsRow base e size x n xs){b:Nat}{es:Array MapEntry}{c:Nat}(hb:w.heap[b]?=some (.map es c)):x.ownBlock≠some b:=by
 rcases h.2 with⟨rfl,_⟩|⟨g,cap,cur,rfl,h2,h3,h4⟩
 ·intro e;cases e
 ·intro e
  have:g=b:=by simpa [Value.ownBlock] using e
  subst this;rw[hb]at h3;cases h3
theorem MapAt.isMap{κ:Type}{P:Program}{k:TypeId}{enc:κ->Value}{b n:Nat}{M:κ->Option Value}(h:MapAt P k enc w b n M):∃es c,w.heap[b]?=some (.map es c):=by
 obtain⟨es,c,hb,_⟩:=h;exact⟨es,c,hb⟩
theorem ah.heap{ι:Type}{P:ι->Option Row}{base:Nat}(h:ah w base P)(hh:∀i r g,P i=some r->r.v.ownBlock=some g->w'.heap[g]?=w.heap[g]?):ah w' base P:=
 ⟨fun i r hr=>Qe (h.own i r hr) fun g hg=>hh i r g hr hg,h.apart⟩
end
end Go.Proofs.YtblkkhfdeaaidaaGreatDoor
