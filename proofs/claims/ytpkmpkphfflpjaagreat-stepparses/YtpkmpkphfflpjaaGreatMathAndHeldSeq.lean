import Derived.WalkKit
import Derived.Deep.AppendLies
import Derived.Deep.Draws
import Derived.WalkSmall
import Derived.Test.YtpkmpkphfflpjaaGreatRows
import Derived.WalkSpells
import Derived.Deep.QuietTactic
import Derived.BigQuiet
import Derived.Deep.RegionWith
import Derived.Deep.Cut
import Derived.Deep.CutRange
import Derived.Deep.DrawnRows
import Derived.OwnWalk
import Derived.StillTailTactics
import Derived.Deep.RegionLaw
import Derived.Deep.RegionHeld3
namespace Go.Proofs.YtpkmpkphfflpjaaGreat
abbrev Sy:=Bool×Int
abbrev Ru:=Int×List Sy
abbrev Sp:=Int×Nat×Nat
structure St where
 pos:Nat
 Y:List Int
 S:List Sp
def lI(R:List Ru)(D:List Int)(n:Int)(p:Nat):Option Nat:=
 match D[p]? with
 |none=>none
 |some q=>
  if 0<=q/\q<R.length then
   (if (R.getD q.toNat (0,[])).1=n then some q.toNat else none)
  else none
def fM(f:Int->St->Option St):List Sy->St->Option St
 | [],st=>some st
 |(true,v)::r,st=>fM f r { st with Y:=st.Y++[v] }
 |(false,n)::r,st=>
  match f n st with
  |none=>none
  |some st'=>fM f r st'
def fq(R:List Ru)(D:List Int):Nat->Int->St->Option St
 |0,_,_=>none
 |k+1,n,st=>
  match lI R D n st.pos with
  |none=>none
  |some q=>
   match fM (fq R D k) (R.getD q (0,[])).2 { pos:=st.pos+1,Y:=st.Y,S:=st.S++[((q:Int),st.Y.length,0)] } with
   |none=>none
   |some st'=>some { st' with S:=st'.S.set st.S.length ((q:Int),st.Y.length,st'.Y.length) }
def jD(R:List Ru)(D:List Int):Option St:=
 if 400<D.length then none
 else
  match fq R D D.length 0 { pos:=0,Y:=[],S:=[] } with
  |none=>none
  |some st=>if st.pos<D.length then none else some st
def Seg(D:List Int)(a lo hi:Nat)(T:List Sp):Prop:=
 ∀i t,T[i]?=some t->D[a+i]?=some t.1/\lo<=t.2.1/\t.2.1<=t.2.2/\t.2.2<=hi/\∀j u,j+1=i->T[j]?=some u->u.2.1<=t.2.1
theorem Seg.nil(D:List Int)(a lo hi:Nat):Seg D a lo hi []:=by
 intro i t h;simp at h
theorem Seg.append{D:List Int}{a lo mid hi:Nat}{T U:List Sp}(h:Seg D a lo mid T)(k:Seg D (a+T.length) mid hi U)(h1:lo<=mid)(h2:mid<=hi):Seg D a lo hi (T++U):=by
 intro i t ht;by_cases hi':i<T.length
 ·rw[List.getElem?_append_left hi']at ht
  obtain⟨a1,a2,a3,a4,a5⟩:=h i t ht;refine⟨a1,a2,a3,by omega,fun j u hj hu=>a5 j u hj ?_⟩
  rwa [List.getElem?_append_left (by omega)]at hu
 ·rw[List.getElem?_append_right (by omega)]at ht
  obtain⟨a1,a2,a3,a4,a5⟩:=k _ t ht;refine⟨by rw[<-a1];congr 1;omega,by omega,a3,a4,fun j u hj hu=> ?_⟩;by_cases hj':j<T.length
  ·rw[List.getElem?_append_left hj']at hu
   obtain⟨_,_,b3,b4,_⟩:=h j u hu;omega
  ·rw[List.getElem?_append_right (by omega)]at hu
   exact a5 _ u (by omega) hu
theorem Seg.cons{D:List Int}{a lo hi:Nat}{q:Int}{T:List Sp}(hq:D[a]?=some q)(h:Seg D (a+1) lo hi T)(h1:lo<=hi):Seg D a lo hi ((q,lo,hi)::T):=by
 intro i t ht;cases i with
 |zero=>
  simp only[List.getElem?_cons_zero,Option.some.injEq]at ht;subst ht;exact⟨by simpa using hq,Nat.le_refl _,h1,Nat.le_refl _,fun j u hj _=>by omega⟩
 |succ i=>
  simp only[List.getElem?_cons_succ]at ht;obtain⟨a1,a2,a3,a4,a5⟩:=h i t ht;refine⟨by rw[<-a1];congr 1;omega,a2,a3,a4,fun j u hj hu=> ?_⟩;cases j with
  |zero=>
   simp only[List.getElem?_cons_zero,Option.some.injEq]at hu;subst hu;exact a2
  |succ j=>
   simp only[List.getElem?_cons_succ]at hu;exact a5 j u (by omega) hu
theorem Ke{R:List Ru}{D:List Int}{n:Int}{p q:Nat}(h:lI R D n p=some q):
 D[p]?=some (q:Int)/\q<R.length/\(R.getD q (0,[])).1=n:=by
 unfold lI at h;split at h
 ·cases h
 ·rename_i x hx
  split at h
  ·rename_i hb
   split at h
   ·rename_i hn
    cases h;refine⟨?_,by omega,hn⟩;rw[hx]
    congr 1
    omega
   ·cases h
  ·cases h
theorem Xv{R:List Ru}{D:List Int}{k q:Nat}{n:Int}{st st':St}{Rt:List Sy}(hq:lI R D n st.pos=some q)(hR:(R.getD q (0,[])).2=Rt)
 (h:fM (fq R D k) Rt { pos:=st.pos+1,Y:=st.Y,S:=st.S++[((q:Int),st.Y.length,0)] }=some st'):
 fq R D (k+1) n st=some { st' with S:=st'.S.set st.S.length ((q:Int),st.Y.length,st'.Y.length) }:=by
 subst hR;rw[fq,hq];simp only[h]
theorem Xw{R:List Ru}{D:List Int}{k q:Nat}{n:Int}{st:St}{Rt:List Sy}(hq:lI R D n st.pos=some q)(hR:(R.getD q (0,[])).2=Rt)
 (h:fM (fq R D k) Rt { pos:=st.pos+1,Y:=st.Y,S:=st.S++[((q:Int),st.Y.length,0)] }=none):
 fq R D (k+1) n st=none:=by
 subst hR;rw[fq,hq];simp only[h]
structure FY(D:List Int)(M:Nat)(st st':St)(extra:Nat):Prop where
 pos:st.pos<=st'.pos
 top:st.pos<=D.length->st'.pos<=D.length
 yl:st.Y.length<=st'.Y.length
 rR:st.pos<=D.length->st'.Y.length+(D.length-st'.pos)*M<=st.Y.length+extra+(D.length-st.pos)*M
 seg:∃T,st'.S=st.S++T/\T.length=st'.pos-st.pos/\Seg D st.pos st.Y.length st'.Y.length T
theorem Po{D:List Int}{M:Nat}{f:Int->St->Option St}(hf:∀n st st',f n st=some st'->FY D M st st' 0):
 ∀(l:List Sy) (st st':St),fM f l st=some st'->FY D M st st' l.length:=by
 intro l
 induction l with
 |nil=>
  intro st st' h;simp only[fM,Option.some.injEq]at h;subst h;exact⟨Nat.le_refl _,fun h=>h,Nat.le_refl _,fun _=>by simp,[],by simp,by simp,Seg.nil _ _ _ _⟩
 |cons s r ih=>
  intro st st' h;obtain⟨b,v⟩:=s;cases b with
  |true=>
   simp only[fM]at h;have g:=ih _ _ h;obtain⟨T,h1,h2,h3⟩:=g.seg;have gy:=g.yl;simp only[List.length_append,List.length_cons,List.length_nil]at gy;refine⟨g.pos,g.top,by omega,fun hp=> ?_,T,h1,h2,?_⟩
   ·have:=g.rR hp
    simp only[List.length_append,List.length_cons,List.length_nil]at this⊢;omega
   ·intro i t ht
    obtain⟨a1,a2,a3,a4,a5⟩:=h3 i t ht;simp only[List.length_append,List.length_cons,List.length_nil]at a2;exact⟨a1,by omega,a3,a4,a5⟩
  |false=>
   simp only[fM]at h;split at h
   ·cases h
   ·rename_i st1 rT
    have g1:=hf _ _ _ rT;have g2:=ih _ _ h;obtain⟨T,h1,h2,h3⟩:=g1.seg;obtain⟨U,k1,k2,k3⟩:=g2.seg;have p1:=g1.pos;have p2:=g2.pos;have y1:=g1.yl;have y2:=g2.yl;refine⟨by omega,fun hp=>g2.top (g1.top hp),by omega,fun hp=> ?_,T++U,?_,?_,?_⟩
    ·have q1:=g1.rR hp
     have q2:=g2.rR (g1.top hp);simp only[List.length_cons];omega
    ·rw[k1,h1,List.append_assoc]
    ·rw[List.length_append];omega
    ·refine h3.append ?_ y1 y2
     rw[show st.pos+T.length=st1.pos by omega];exact k3
theorem Pp{R:List Ru}{D:List Int}{M:Nat}(hM:∀q,(R.getD q (0,[])).2.length<=M):
 ∀(k:Nat) (n:Int) (st st':St),fq R D k n st=some st'->
  FY D M st st' 0/\st.pos<st'.pos/\∃q T,st'.S=st.S++(q,st.Y.length,st'.Y.length)::T:=by
 intro k
 induction k with
 |zero=>
  intro n st st' h;simp[fq]at h
 |succ k ih=>
  intro n st st' h;simp only[fq]at h;split at h
  ·cases h
  ·rename_i q hq
   split at h
   ·cases h
   ·rename_i st1 rT
    cases h;obtain⟨d1,d2,d3⟩:=Ke hq;have g:=Po (M:=M) (fun n st st' h=>(ih n st st' h).1) _ _ _ rT;obtain⟨T,h1,h2,h3⟩:=g.seg;have gp:=g.pos;have gy:=g.yl
    have hlt:st.pos<D.length:=by
     rcases Nat.lt_or_ge st.pos D.length with h|h
     ·exact h
     ·rw[List.getElem?_eq_none h]at d1;cases d1
    simp only at gp gy h1 h2 h3
    have hS:st1.S.set st.S.length ((q:Int),st.Y.length,st1.Y.length)=st.S++((q:Int),st.Y.length,st1.Y.length)::T:=by
     rw[h1,List.append_assoc,List.singleton_append,List.set_append_right _ _ (Nat.le_refl _)];simp
    refine⟨⟨by simp only;omega,fun _=>g.top (by simp only;omega),by simp only;omega,fun hp=> ?_,((q:Int),st.Y.length,st1.Y.length)::T,hS,?_,?_⟩,by simp only;omega,_,T,hS⟩
    ·have hm:=hM q
     have Kh:=g.rR (by simp only;omega);simp only at Kh⊢;have e:D.length-st.pos=(D.length-(st.pos+1))+1:=by omega
     rw[e,Nat.add_mul,Nat.one_mul];omega
    ·simp only[List.length_cons];omega
    ·exact Seg.cons d1 h3 gy
def dR(X:List Bool)(l:List Sy):Bool:=l.all fun s=>s.1||X.getD s.2.toNat false
theorem Pq(X:List Bool)(l:List Sy)(i:Nat)(h:i<l.length):dR X (l.take (i+1))=(dR X (l.take i)&&((l.getD i (false,0)).1||X.getD (l.getD i (false,0)).2.toNat false)):=by
 unfold dR;rw[List.take_succ_eq_append_getElem h,List.all_append];simp[List.getD,h]
theorem Xx(X:List Bool)(l:List Sy)(i:Nat)(h:i<l.length)(hb:((l.getD i (false,0)).1||X.getD (l.getD i (false,0)).2.toNat false)=false):dR X l=false:=by
 unfold dR;rw[List.all_eq_false];refine⟨l[i],List.getElem_mem h,?_⟩;have e:l.getD i (false,0)=l[i]:=by simp[List.getD,h]
 rw[e]at hb;rw[hb];simp
end Go.Proofs.YtpkmpkphfflpjaaGreat
namespace Go.Proofs.YtpkmpkphfflpjaaGreat
open Go.RowKit
def aD(w:World)(lim:Nat)(rv:Value)(R:List Ru):Prop:=
 (∃ra rc,rv= .slice ra R.length rc)/\
 ∀q,q<R.length->∃b o rc qa qc,rv= .slice (some ⟨b,o,none⟩) R.length rc/\b<lim/\
  w.cell? ⟨b,o+q*2,none⟩=some (.int .i64 (R.getD q (0,[])).1)/\
  w.cell? ⟨b,o+(q*2+1),none⟩=some (.slice qa (R.getD q (0,[])).2.length qc)/\(R.getD q (0,[])).2.length<=qc/\
  ∀j,j<(R.getD q (0,[])).2.length->∃b' o',qa=some ⟨b',o',none⟩/\b'<lim/\
   w.cell? ⟨b',o'+j*2,none⟩=some (.bool ((R.getD q (0,[])).2.getD j (false,0)).1)/\
   w.cell? ⟨b',o'+(j*2+1),none⟩=some (.int .i64 ((R.getD q (0,[])).2.getD j (false,0)).2)
def aH(w:World)(lim:Nat)(dv:Value)(D:List Int):Prop:=
 (∃da dc,dv= .slice da D.length dc)/\
 ∀p,p<D.length->∃b o dc,dv= .slice (some ⟨b,o,none⟩) D.length dc/\b<lim/\w.cell? ⟨b,o+p,none⟩=some (.int .i64 (D.getD p 0))
theorem aD.below{B:Nat}{w w':World}{rv:Value}{R:List Ru}(h:aD w B rv R)(hb:Below B w w'):aD w' B rv R:=by
 refine⟨h.1,fun q hq=> ?_⟩;obtain⟨b,o,rc,qa,qc,h1,h2,h3,h4,h6,h5⟩:=h.2 q hq;refine⟨b,o,rc,qa,qc,h1,h2,(hb.cell h2).trans h3,(hb.cell h2).trans h4,h6,fun j hj=> ?_⟩;obtain⟨b',o',k1,k2,k3,k4⟩:=h5 j hj;exact⟨b',o',k1,k2,(hb.cell k2).trans k3,(hb.cell k2).trans k4⟩
theorem aH.below{B:Nat}{w w':World}{dv:Value}{D:List Int}(h:aH w B dv D)(hb:Below B w w'):aH w' B dv D:=by
 refine⟨h.1,fun p hp=> ?_⟩;obtain⟨b,o,dc,h1,h2,h3⟩:=h.2 p hp;exact⟨b,o,dc,h1,h2,(hb.cell h2).trans h3⟩
theorem aD.mono{B B':Nat}{w:World}{rv:Value}{R:List Ru}(h:aD w B rv R)(hb:B<=B'):aD w B' rv R:=by
 refine⟨h.1,fun q hq=> ?_⟩;obtain⟨b,o,rc,qa,qc,h1,h2,h3,h4,h6,h5⟩:=h.2 q hq;refine⟨b,o,rc,qa,qc,h1,by omega,h3,h4,h6,fun j hj=> ?_⟩;obtain⟨b',o',k1,k2,k3,k4⟩:=h5 j hj;exact⟨b',o',k1,by omega,k3,k4⟩
theorem aH.mono{B B':Nat}{w:World}{dv:Value}{D:List Int}(h:aH w B dv D)(hb:B<=B'):aH w B' dv D:=by
 refine⟨h.1,fun p hp=> ?_⟩;obtain⟨b,o,dc,h1,h2,h3⟩:=h.2 p hp;exact⟨b,o,dc,h1,by omega,h3⟩
theorem aY{w:World}{base:Nat}{e:TypeId}{size:Nat}{v:Value}{n:Nat}{xs:List Value}(h:w.ownsRow base e size v n xs):∃a c,v= .slice a n c:=by
 rcases h.2 with⟨rfl,rfl⟩|⟨g,cap,_,rfl,_⟩
 ·exact⟨_,_,rfl⟩
 ·exact⟨_,_,rfl⟩
theorem jE{w:World}{base base':Nat}{e:TypeId}{size:Nat}{v:Value}{n:Nat}{xs:List Value}(h:w.ownsRow base e size v n xs)(hb:base'<=base):w.ownsRow base' e size v n xs:=by
 refine⟨h.1,?_⟩;rcases h.2 with h2|⟨g,cap,cur,h1,h2,h3⟩
 ·exact .inl h2
 ·exact .inr ⟨g,cap,cur,h1,by omega,h3⟩
theorem own_below{B base:Nat}{e:TypeId}{size:Nat}{v:Value}{n:Nat}{xs:List Value}{w w':World}(h:w.ownsRow base e size v n xs)(hb:Below B w w')(hv:∀g,v.ownBlock=some g->g<B):w'.ownsRow base e size v n xs:=by
 refine⟨h.1,?_⟩;rcases h.2 with h2|⟨g,cap,cur,rfl,h2,h3,h4⟩
 ·exact .inl h2
 ·exact .inr ⟨g,cap,cur,rfl,h2,(hb.block g (hv g rfl)).trans h3,h4⟩
theorem aD.boxed{w:World}{rv:Value}{R:List Ru}(h:aD w w.heap.size rv R)(o:Obj):aD (w.alloc o) (w.alloc o).heap.size rv R:=
 (h.below ((Below.refl _ _).alloc (Nat.le_refl _) o)).mono (by simp)
theorem aH.boxed{w:World}{dv:Value}{D:List Int}(h:aH w w.heap.size dv D)(o:Obj):aH (w.alloc o) (w.alloc o).heap.size dv D:=
 (h.below ((Below.refl _ _).alloc (Nat.le_refl _) o)).mono (by simp)
theorem Xy{α:Type}{l:List α}{i:Nat}{x d:α}(h:l[i]?=some x):l.getD i d=x:=by simp[List.getD,h]
theorem dH{w:World}{a c:Addr}{u:Value}(h:a.block≠c.block\/a.off≠c.off):(w.setCell c u).cell? a=w.cell? a:=by
 rw[World.cell?_setCell_other];intro e;subst e;rcases h with h|h<;>exact h rfl
def iq(w:World)(lim:Nat)(qa:Option Addr)(Rt:List Sy):Prop:=
 ∀j,j<Rt.length->∃b' o',qa=some ⟨b',o',none⟩/\b'<lim/\
  w.cell? ⟨b',o'+j*2,none⟩=some (.bool (Rt.getD j (false,0)).1)/\
  w.cell? ⟨b',o'+(j*2+1),none⟩=some (.int .i64 (Rt.getD j (false,0)).2)
theorem iq.below{B:Nat}{w w':World}{qa:Option Addr}{Rt:List Sy}(h:iq w B qa Rt)(hb:Below B w w'):iq w' B qa Rt:=fun j hj=>by
 obtain⟨b',o',k1,k2,k3,k4⟩:=h j hj;exact⟨b',o',k1,k2,(hb.cell k2).trans k3,(hb.cell k2).trans k4⟩
theorem iq.mono{B B':Nat}{w:World}{qa:Option Addr}{Rt:List Sy}(h:iq w B qa Rt)(hb:B<=B'):iq w B' qa Rt:=fun j hj=>by
 obtain⟨b',o',k1,k2,k3,k4⟩:=h j hj;exact⟨b',o',k1,by omega,k3,k4⟩
def qQ(w:World)(v:Value)(X:List Bool):Prop:=
 (∃a c,v= .slice a X.length c)/\∀i,i<X.length->∃g o c,v= .slice (some ⟨g,o,none⟩) X.length c/\w.cell? ⟨g,o+i,none⟩=some (.bool (X.getD i false))
def wH(w:World)(v:Value)(X:List (List Bool)):Prop:=
 (∃a c,v= .slice a X.length c)/\∀i,i<X.length->∃g o c rv,v= .slice (some ⟨g,o,none⟩) X.length c/\w.cell? ⟨g,o+i,none⟩=some rv/\qQ w rv (X.getD i [])
def bK(w:World)(v:Value)(l:List Sy):Prop:=
 (∃a c,v= .slice a l.length c/\l.length<=c)/\∀j,j<l.length->∃b o c,v= .slice (some ⟨b,o,none⟩) l.length c/\w.cell? ⟨b,o+j*2,none⟩=some (.bool (l.getD j (false,0)).1)/\
  w.cell? ⟨b,o+j*2+1,none⟩=some (.int .i64 (l.getD j (false,0)).2)
theorem qQ.same{w w':World}{v:Value}{X:List Bool}(h:qQ w v X)(hw:∀b o,b<w.heap.size->w'.cell? ⟨b,o,none⟩=w.cell? ⟨b,o,none⟩):qQ w' v X:=
 ⟨h.1,fun i hi=>let ⟨g,o,c,h1,h2⟩:=h.2 i hi;⟨g,o,c,h1,(hw g _ (World.block_lt_of_cell? w _ h2)).trans h2⟩⟩
theorem wH.same{w w':World}{v:Value}{X:List (List Bool)}(h:wH w v X)(hw:∀b o,b<w.heap.size->w'.cell? ⟨b,o,none⟩=w.cell? ⟨b,o,none⟩):wH w' v X:=
 ⟨h.1,fun i hi=>let ⟨g,o,c,rv,h1,h2,h3⟩:=h.2 i hi;⟨g,o,c,rv,h1,(hw g _ (World.block_lt_of_cell? w _ h2)).trans h2,h3.same hw⟩⟩
theorem bK.same{w w':World}{v:Value}{l:List Sy}(h:bK w v l)(hw:∀b o,b<w.heap.size->w'.cell? ⟨b,o,none⟩=w.cell? ⟨b,o,none⟩):bK w' v l:=
 ⟨h.1,fun j hj=>let ⟨b,o,c,h1,h2,h3⟩:=h.2 j hj;⟨b,o,c,h1,(hw b _ (World.block_lt_of_cell? w _ h2)).trans h2,(hw b _ (World.block_lt_of_cell? w _ h3)).trans h3⟩⟩
theorem aD.jF{w:World}{B:Nat}{rv:Value}{R:List Ru}(h:aD w B rv R){q:Nat}(hq:q<R.length):∃b o rc qa qc,rv= .slice (some ⟨b,o,none⟩) R.length rc/\b<B/\
 w.cell? ⟨b,o+q*2,none⟩=some (.int .i64 (R.getD q (0,[])).1)/\w.cell? ⟨b,o+q*2+1,none⟩=some (.slice qa (R.getD q (0,[])).2.length qc)/\bK w (.slice qa (R.getD q (0,[])).2.length qc) (R.getD q (0,[])).2:=by
 obtain⟨b,o,rc,qa,qc,h1,h2,h3,h4,h6,h5⟩:=h.2 q hq;refine⟨b,o,rc,qa,qc,h1,h2,h3,by rw[Nat.add_assoc];exact h4,⟨_,_,rfl,h6⟩,fun j hj=> ?_⟩;obtain⟨b',o',rfl,_,k1,k2⟩:=h5 j hj;exact⟨b',o',qc,rfl,k1,by rw[Nat.add_assoc];exact k2⟩
theorem iT{w w':World}(h:Below w.heap.size w w'):∀b o,b<w.heap.size->w'.cell? ⟨b,o,none⟩=w.cell? ⟨b,o,none⟩:=fun _ _ hb=>h.cell hb
def wI(X:List Bool)(l:List Sy):Bool:=l.all fun s=> !s.1&&X.getD s.2.toNat false
theorem bK.take{w:World}{b o c:Nat}{l:List Sy}(h:bK w (.slice (some ⟨b,o,none⟩) l.length c) l)(i:Nat)(hi:i<=l.length):bK w (.slice (some ⟨b,o,none⟩) i c) (l.take i):=by
 have hl:(l.take i).length=i:=by simp;omega
 obtain⟨a',c',e,hc⟩:=h.1;cases e;refine⟨⟨_,_,by rw[hl],by omega⟩,fun j hj=> ?_⟩;rw[hl]at hj;obtain⟨b',o',c',e,h1,h2⟩:=h.2 j (by omega);cases e;have hg:(l.take i).getD j (false,0)=l.getD j (false,0):=by simp[List.getD,hj]
 exact⟨b,o,c,by rw[hl],by rw[hg];exact h1,by rw[hg];exact h2⟩
theorem bK.drop{w:World}{b o c:Nat}{l:List Sy}(h:bK w (.slice (some ⟨b,o,none⟩) l.length c) l)(n:Nat)(hn:n<=l.length):
 bK w (.slice (if c=n then some ⟨b,o,none⟩ else some ⟨b,o+n*2,none⟩) (l.length-n) (c-n)) (l.drop n):=by
 have hl:(l.drop n).length=l.length-n:=by simp
 obtain⟨a',c',e,hc⟩:=h.1;cases e;refine⟨⟨_,_,by rw[hl],by omega⟩,fun j hj=> ?_⟩;rw[hl]at hj;obtain⟨b',o',c',e,h1,h2⟩:=h.2 (n+j) (by omega);cases e;have hg:(l.drop n).getD j (false,0)=l.getD (n+j) (false,0):=by simp[List.getD]
 refine⟨b,o+n*2,c-n,by rw[hl,if_neg (by omega)],?_,?_⟩
 ·rw[hg,<-h1];congr 2;omega
 ·rw[hg,<-h2];congr 2;omega
def Ki(F:List (List Bool))(t:Nat)(s:Sy):Bool:=if s.1 then decide (s.2=(t:Int)) else (F.getD s.2.toNat []).getD t false
def wJ(X:List Bool)(F:List (List Bool))(t:Nat)(l:List Sy):Bool:=(List.range l.length).any fun i=>wI X (l.take i)&&Ki F t (l.getD i (false,0))
def mO(T N:Int)(s:Sy):Bool:=decide (0<=s.2/\s.2<if s.1 then T else N)
def kz(T N:Int)(r:Ru):Bool:=decide (0<=r.1/\r.1<N/\r.2.length<=8)&&r.2.all (mO T N)
def Ac(T N:Int)(n:Nat):Bool:=decide (0<=T/\T<=8/\1<=N/\N<=12/\n<=40)
def aZ(T N:Int)(R:List Ru):Bool:=Ac T N R.length&&R.all (kz T N)
theorem Pt{α:Type}(f:α->Bool)(l:List α)(d:α)(j:Nat)(h:j<l.length):(l.take (j+1)).all f=((l.take j).all f&&f (l.getD j d)):=by
 rw[List.take_succ_eq_append_getElem h,List.all_append];simp[List.getD,h]
theorem Pv{α:Type}(f:α->Bool)(l:List α)(j:Nat)(h:l.length<=j):(l.take j).all f=l.all f:=by
 rw[List.take_of_length_le h]
theorem Pw{α:Type}(f:α->Bool)(l:List α)(d:α)(j:Nat)(h:j<l.length)(hf:f (l.getD j d)=false):l.all f=false:=by
 rw[List.all_eq_false];refine⟨l[j],List.getElem_mem h,?_⟩;simpa [List.getD,h] using hf
theorem Xz{T N:Int}{R:List Ru}{j:Nat}(hj:j<R.length)(h:kz T N (R.getD j (0,[]))=false):R.all (kz T N)=false:=Pw _ R (0,[]) j hj h
structure Row where
 v:Value
 e:TypeId
 size:Nat
 n:Nat
 xs:List Value
structure au{ι:Type}(w:World)(base:Nat)(P:ι->Option Row):Prop where
 own:∀i r,P i=some r->w.ownsRow base r.e r.size r.v r.n r.xs
 apart:∀i j a b,i≠j->P i=some a->P j=some b->∀g,a.v.ownBlock=some g->b.v.ownBlock=some g->False
def upd{ι:Type}[DecidableEq ι](P:ι->Option Row)(i:ι)(r:Row):ι->Option Row:=fun j=>if j=i then some r else P j
section
variable{ι:Type}{w:World}{base:Nat}{P:ι->Option Row}
theorem au.drewN(h:au w base P)(m:Nat):au (w.drewN m) base P:=⟨h.own,h.apart⟩
theorem au.drew(h:au w base P):au w.drew base P:=⟨h.own,h.apart⟩
theorem au.alloc(h:au w base P)(o:Obj):au (w.alloc o) base P:=⟨fun i r hr=>(h.own i r hr).alloc o,h.apart⟩
theorem au.mono(h:au w base P){base':Nat}(hb:base'<=base):au w base' P:=⟨fun i r hr=>jE (h.own i r hr) hb,h.apart⟩
theorem au.lt(h:au w base P){i:ι}{r:Row}(hi:P i=some r){g:Nat}(hg:r.v.ownBlock=some g):base<=g/\g<w.heap.size:=(h.own i r hi).lt g hg
theorem au.below(h:au w base P){B:Nat}{w':World}(hb:Below B w w')(hB:w.heap.size<=B):au w' base P:=
 ⟨fun _ _ hr=>own_below (h.own _ _ hr) hb fun _ hg=>Nat.lt_of_lt_of_le (h.lt hr hg).2 hB,h.apart⟩
theorem au.setOther(h:au w base P){a:Addr}(ha:∀i r,P i=some r->r.v.ownBlock≠some a.block)(u:Value):au (w.setCell a u) base P:=by
 refine⟨fun i r hr=> ?_,h.apart⟩;obtain⟨h1,h2⟩:=h.own i r hr;refine⟨h1,?_⟩;rcases h2 with h2|⟨g,cap,cur,hv,hg,hh,rest⟩
 ·exact .inl h2
 ·refine .inr ⟨g,cap,cur,hv,hg,?_,rest⟩
  rw[Below.heap_setCell _ _ _ _ (fun e=>ha i r hr (by rw[hv,e];rfl))];exact hh
theorem au.tQ(h:au w base P){a:Addr}(ha:a.block<base)(u:Value):au (w.setCell a u) base P:=
 h.setOther (fun _ _ hr e=>by have:=(h.lt hr e).1;omega) u
variable[DecidableEq ι]
theorem upd_same(P:ι->Option Row)(i:ι)(r:Row):upd P i r i=some r:=by simp[upd]
theorem qR(P:ι->Option Row){i j:ι}(h:j≠i)(r:Row):upd P i r j=P j:=by simp[upd,h]
theorem FZ{P:ι->Option Row}{i j:ι}{r a:Row}(h:upd P i r j=some a):(j=i/\a=r)\/(j≠i/\P j=some a):=by
 unfold upd at h;split at h
 ·rename_i e
  exact .inl ⟨e,by simpa using h.symm⟩
 ·rename_i e
  exact .inr ⟨e,h⟩
theorem au.put(h:au w base P){i:ι}{r':Row}{w':World}(hown:w'.ownsRow base r'.e r'.size r'.v r'.n r'.xs)
 (hkeep:∀j a,j≠i->P j=some a->w'.ownsRow base a.e a.size a.v a.n a.xs)
 (hfresh:∀j a,j≠i->P j=some a->∀g,a.v.ownBlock=some g->r'.v.ownBlock=some g->False):au w' base (upd P i r'):=by
 refine⟨fun j a ha=> ?_,fun j k a b hjk ha hb g h1 h2=> ?_⟩
 ·rcases FZ ha with⟨_,rfl⟩|⟨hj,ha⟩
  ·exact hown
  ·exact hkeep j a hj ha
 ·rcases FZ ha with⟨hj,e1⟩|⟨hj,ha'⟩
  ·rcases FZ hb with⟨hk,_⟩|⟨hk,hb'⟩
   ·exact hjk (by rw[hj,hk])
   ·subst e1
    exact hfresh k b hk hb' g h2 h1
  ·rcases FZ hb with⟨hk,e1⟩|⟨hk,hb'⟩
   ·subst e1
    exact hfresh j a hj ha' g h1 h2
   ·exact h.apart j k a b hjk ha' hb' g h1 h2
theorem au.new(h:au w base P)(i:ι){w':World}{r:Row}(hg:w.grownBy w' none)(hown:w'.ownsRow base r.e r.size r.v r.n r.xs)(hv:∀g,r.v.ownBlock=some g->g=w.heap.size):au w' base (upd P i r):=by
 refine h.put hown (fun j a _ ha=>(h.own j a ha).kept hg ?_) (fun j a _ ha g h1 h2=> ?_)
 ·cases a.v.ownBlock<;>simp
 ·have:=(h.lt ha h1).2
  have:=hv g h2;omega
theorem au.turn(h:au w base P){i:ι}{r r':Row}(hi:P i=some r){w':World}(hg:w.grownBy w' r.v.ownBlock)(hown:w'.ownsRow base r'.e r'.size r'.v r'.n r'.xs)
 (hat:∀g,r'.v.ownBlock=some g->r.v.ownBlock=some g\/g=w.heap.size):au w' base (upd P i r'):=by
 refine h.put hown (fun j a hj ha=>(h.own j a ha).kept hg ?_) (fun j a hj ha g h1 h2=> ?_)
 ·cases e:a.v.ownBlock with
  |none=>exact .inl rfl
  |some g=>exact .inr fun e'=>h.apart j i a r hj ha hi g e e'.symm
 ·rcases hat g h2 with e|e
  ·exact h.apart j i a r hj ha hi g h1 e
  ·have:=(h.lt ha h1).2;omega
theorem au.store(h:au w base P){i:ι}{g n cap e size:Nat}{xs:List Value}(hi:P i=some ⟨.slice (some ⟨g,0,none⟩) n cap,e,size,n,xs⟩)(j:Nat)(u:Value):
 au (w.setCell ⟨g,j,none⟩ u) base (upd P i ⟨.slice (some ⟨g,0,none⟩) n cap,e,size,n,xs.set j u⟩):=by
 obtain⟨h1,h2⟩:=(h.own i _ hi).stored j u;exact h.turn (r':=⟨.slice (some ⟨g,0,none⟩) n cap,e,size,n,xs.set j u⟩) hi h2 h1 fun g' hg'=> .inl hg'
omit [DecidableEq ι] in
theorem au.cell(h:au w base P){i:ι}{g n cap e size:Nat}{xs:List Value}(hi:P i=some ⟨.slice (some ⟨g,0,none⟩) n cap,e,size,n,xs⟩)(j:Nat)(hj:j<n*size):
 w.cell? ⟨g,j,none⟩=xs[j]?/\w.frozen? ⟨g,j,none⟩=false:=
 ⟨(h.own i _ hi).cellAt j hj,(h.own i _ hi).frozenAt j⟩
omit [DecidableEq ι] in
theorem au.form(h:au w base P){i:ι}{r:Row}(hi:P i=some r)(hn:0<r.n):∃g cap,r.v= .slice (some ⟨g,0,none⟩) r.n cap/\base<=g/\g<w.heap.size:=(h.own i r hi).form hn
omit [DecidableEq ι] in
theorem au.slice(h:au w base P){i:ι}{r:Row}(hi:P i=some r):∃a c,r.v= .slice a r.n c:=aY (h.own i r hi)
end
theorem yB{P:Program}{id:Nat}{Q:Exit->Act->World->Prop}{a:Act}{w:World}{l:List Oper}(n:Nat)(hm:P.follows .mixedOrders=true)(hB:Region.lexTailB .any l.toArray n=true)
 (h:wpStill P l.toArray w.drew (fun a'=>wpList P l.toArray Q (l.drop n) a' w.drew) (l.take n) a):(Code.region id l.toArray true).wp P Q a w:=wp_region_still_tail n hm hB h
structure Kept(K:Nat->Prop)(w w':World):Prop where
 os:w'.os=w.os
 tape:w'.tape=w.tape
 output:w'.output=w.output
 size:w.heap.size<=w'.heap.size
 block:∀k,k<w.heap.size->¬K k->w'.heap[k]?=w.heap[k]?
section
variable{K:Nat->Prop}{a w w':World}
theorem Kept.refl(K:Nat->Prop)(w:World):Kept K w w:=⟨rfl,rfl,rfl,Nat.le_refl _,fun _ _ _=>rfl⟩
theorem Kept.trans{b c:World}(h:Kept K a b)(k:Kept K b c):Kept K a c:=
 ⟨k.os.trans h.os,k.tape.trans h.tape,k.output.trans h.output,Nat.le_trans h.size k.size,fun i hi hK=>(k.block i (Nat.lt_of_lt_of_le hi h.size) hK).trans (h.block i hi hK)⟩
theorem Kept.drew(h:Kept K a w):Kept K a w.drew:=⟨h.os,h.tape,h.output,h.size,h.block⟩
theorem Kept.drewN(h:Kept K a w)(n:Nat):Kept K a (w.drewN n):=⟨h.os,h.tape,h.output,h.size,h.block⟩
theorem Kept.iU(h:Below w.heap.size w w'):Kept K w w':=⟨h.os,h.tape,h.output,h.size,fun k hk _=>h.block k hk⟩
theorem Kept.alloc(h:Kept K a w)(o:Obj):Kept K a (w.alloc o):=h.trans (Kept.iU ((Below.refl _ _).alloc (Nat.le_refl _) o))
theorem Kept.setCell(h:Kept K a w){p:Addr}(hp:K p.block)(u:Value):Kept K a (w.setCell p u):=
 h.trans ⟨rfl,rfl,rfl,by simp[World.setCell],fun k _ hK=>Below.heap_setCell _ _ _ _ (fun e=>hK (e▸hp))⟩
theorem Kept.below(h:Kept K a w){B:Nat}(hB:∀b,K b->B<=b)(hs:B<=a.heap.size):Below B a w:=
 ⟨h.os,h.tape,h.output,h.size,fun k hk=>h.block k (by omega) (fun e=>by have:=hB k e;omega)⟩
theorem Kept.cell(h:Kept K w w'){p:Addr}{v:Value}(hp:¬K p.block)(hc:w.cell? p=some v):w'.cell? p=some v:=
 (World.cell?_of_block (w:=w) (h.block p.block (World.block_lt_of_cell? w _ hc) hp)).trans hc
theorem Kept.frozen(h:Kept K w w'){p:Addr}(hp:¬K p.block)(hs:p.block<w.heap.size):w'.frozen? p=w.frozen? p:=
 World.frozen?_of_block (w:=w) (h.block p.block hs hp)
end
def bO{α:Type}(n:Nat)(f:Nat->α->α)(x:α):α:=
 match n with
 |0=>x
 |k+1=>f k (bO k f x)
theorem oN{α:Type}(P:Nat->α->Prop){n:Nat}{f:Nat->α->α}{x:α}(h0:P 0 x)(hs:∀i,i<n->∀y,P i y->P (i+1) (f i y)):P n (bO n f x):=by
 induction n with
 |zero=>exact h0
 |succ n ih=>exact hs n (Nat.lt_succ_self n) _ (ih fun i hi=>hs i (Nat.lt_succ_of_lt hi))
structure dP(ι:Type) where
 V:ι->Value
 dom:ι->Option Nat
section
variable{ι:Type}
def dP.P(c:dP ι)(X:ι->List Bool)(i:ι):Option Row:=(c.dom i).map fun n=>⟨c.V i,4,1,n,(X i).map Value.bool⟩
def dP.K(c:dP ι)(b:Nat):Prop:=∃i n,c.dom i=some n/\(c.V i).ownBlock=some b
def bit(X:ι->List Bool)(i:ι)(m:Nat):Bool:=(X i).getD m false
def bH[DecidableEq ι](X:ι->List Bool)(i:ι)(m:Nat)(v:Bool):ι->List Bool:=fun j=>if j=i then (X i).set m v else X j
def Bt(w:World)(B:Nat)(c:dP ι)(X:ι->List Bool):Prop:=au w B (c.P X)
variable{w:World}{B:Nat}{c:dP ι}{X:ι->List Bool}{i:ι}{n:Nat}
theorem dP.yC(hd:c.dom i=some n):c.P X i=some ⟨c.V i,4,1,n,(X i).map Value.bool⟩:=by simp[dP.P,hd]
theorem Bt.own(h:Bt w B c X)(hd:c.dom i=some n):w.ownsRow B 4 1 (c.V i) n ((X i).map Value.bool):=au.own h i _ (dP.yC hd)
theorem Bt.len(h:Bt w B c X)(hd:c.dom i=some n):(X i).length=n:=by simpa using (h.own hd).1
theorem Bt.slice(h:Bt w B c X)(hd:c.dom i=some n):∃a cap,c.V i= .slice a n cap:=aY (h.own hd)
theorem Bt.form(h:Bt w B c X)(hd:c.dom i=some n)(hn:0<n):∃g cap,c.V i= .slice (some ⟨g,0,none⟩) n cap/\B<=g/\g<w.heap.size:=(h.own hd).form hn
theorem Bt.cell(h:Bt w B c X)(hd:c.dom i=some n){g cap m:Nat}(hv:c.V i= .slice (some ⟨g,0,none⟩) n cap)(hm:m<n):
 w.cell? ⟨g,m,none⟩=some (.bool (bit X i m))/\w.frozen? ⟨g,m,none⟩=false:=by
 have hl:=h.len hd;have ho:=h.own hd;rw[hv]at ho;refine⟨?_,ho.frozenAt m⟩;rw[ho.cellAt m (by omega)];simp[bit,List.getD,show m<(X i).length by omega]
theorem Bt.alloc(h:Bt w B c X)(o:Obj):Bt (w.alloc o) B c X:=au.alloc h o
theorem Bt.drew(h:Bt w B c X):Bt w.drew B c X:=au.drew h
theorem Bt.drewN(h:Bt w B c X)(n:Nat):Bt (w.drewN n) B c X:=au.drewN h n
theorem Bt.below(h:Bt w B c X){w':World}(hb:Below w.heap.size w w'):Bt w' B c X:=au.below h hb (Nat.le_refl _)
theorem Bt.ge(h:Bt w B c X){b:Nat}(hK:c.K b):B<=b:=by
 obtain⟨i,n,hd,hb⟩:=hK;exact((h.own hd).lt b hb).1
theorem Bt.lt(h:Bt w B c X){b:Nat}(hK:c.K b):b<w.heap.size:=by
 obtain⟨i,n,hd,hb⟩:=hK;exact((h.own hd).lt b hb).2
theorem Bt.iV(h:Bt w B c X){b:Nat}(hb:w.heap.size<=b):¬c.K b:=fun hK=>by have:=h.lt hK;omega
theorem dP.Kj(hd:c.dom i=some n){g cap:Nat}(hv:c.V i= .slice (some ⟨g,0,none⟩) n cap):c.K g:=⟨i,n,hd,by rw[hv];rfl⟩
theorem Bt.apart(h:Bt w B c X){j:ι}{k:Nat}(hij:i≠j)(hd:c.dom i=some n)(hd':c.dom j=some k){g g' cap cap':Nat}(hv:c.V i= .slice (some ⟨g,0,none⟩) n cap)(hv':c.V j= .slice (some ⟨g',0,none⟩) k cap'):g≠g':=fun e=>
 au.apart h i j _ _ hij (dP.yC hd) (dP.yC hd') g (by rw[hv];rfl) (by rw[hv',e];rfl)
variable[DecidableEq ι]
theorem Bt.set(h:Bt w B c X)(hd:c.dom i=some n){g cap:Nat}(hv:c.V i= .slice (some ⟨g,0,none⟩) n cap)(m:Nat)(v:Bool):Bt (w.setCell ⟨g,m,none⟩ (.bool v)) B c (bH X i m v):=by
 have:=au.store h (i:=i) (g:=g) (n:=n) (cap:=cap) (e:=4) (size:=1) (xs:=(X i).map Value.bool) (by rw[dP.yC hd,hv]) m (.bool v)
 have e:upd (c.P X) i ⟨.slice (some ⟨g,0,none⟩) n cap,4,1,n,((X i).map Value.bool).set m (.bool v)⟩=c.P (bH X i m v):=by
  funext j
  by_cases hj:j=i
  ·subst hj
   simp[upd,dP.P,hd,bH,hv,List.map_set]
  ·simp[upd,dP.P,bH,hj]
 show au _ _ _
 rwa [e]at this
omit [DecidableEq ι] in
theorem Kk{m:Nat}(h:bit X i m=true):m<(X i).length:=by
 unfold bit at h;by_cases hm:m<(X i).length
 ·exact hm
 ·simp[List.getD,List.getElem?_eq_none (show (X i).length<=m by omega)]at h
theorem iW{j:ι}{m q:Nat}{v:Bool}(hm:m<(X i).length):bit (bH X i m v) j q=if j=i/\q=m then v else bit X j q:=by
 unfold bit bH;by_cases hj:j=i
 ·subst hj
  simp only[if_true,true_and];by_cases hq:q=m
  ·subst hq;simp[List.getD,hm]
  ·rw[if_neg hq];simp[List.getD,List.getElem?_set_ne (fun h=>hq h.symm)]
 ·simp[hj]
theorem rU{j:ι}{m:Nat}{v:Bool}:(bH X i m v j).length=(X j).length:=by
 unfold bH;by_cases hj:j=i
 ·subst hj;simp
 ·simp[hj]
end
theorem kM{T N:Nat}{R:List Ru}(h:aZ T N R=true):T<=8/\1<=N/\N<=12/\R.length<=40/\
 ∀i,i<R.length->0<=(R.getD i (0,[])).1/\(R.getD i (0,[])).1<(N:Int)/\(R.getD i (0,[])).2.length<=8/\
  ∀s∈(R.getD i (0,[])).2,0<=s.2/\s.2<if s.1 then (T:Int) else (N:Int):=by
 simp only[aZ,Ac,Bool.and_eq_true,decide_eq_true_eq]at h;obtain⟨⟨h1,h2,h3,h4,h5⟩,h6⟩:=h;refine⟨by omega,by omega,by omega,h5,fun i hi=> ?_⟩;have h7:=List.all_eq_true.1 h6 (R.getD i (0,[])) (by simp[List.getD,hi]);simp only[kz,Bool.and_eq_true,decide_eq_true_eq]at h7;refine⟨h7.1.1,h7.1.2.1,h7.1.2.2,fun s hs=> ?_⟩;have h8:=List.all_eq_true.1 h7.2 s hs;simpa [mO] using h8
theorem Tryz.infoBool:(Tryz.prog.info? 4).map (fun i=>(i.zero,i.size,i.bytes))=some (some (.bool false),1,1):=by kernel_rfl
theorem Ad(n:Nat)(hn:n<=1000000)(u:World):(Instr.makeSlice 81 (.int .i64 n) (.int .i64 n)).run Tryz.prog u= .ok (.slice (some ⟨u.heap.size,0,none⟩) n n) (u.alloc (.cells (madeCells #[.bool false] n) 4)):=by
 obtain⟨i0,hi,hz0,hz1,hz2⟩:=info_parts Tryz.infoBool;have h:=run_make (P:=Tryz.prog) u 81 4 i0 (.bool false) Tryz.underlying81 hi hz0 .i64 .i64 n n (by omega) (Int.le_refl _) (by rw[hz2];omega) (by omega);simpa [hz1,Value.cells] using h
def fO(w:World)(B g N:Nat)(X:List Bool):Prop:=w.ownsRow B 4 1 (.slice (some ⟨g,0,none⟩) N N) N (X.map Value.bool)
section
variable{w:World}{B g N:Nat}{X:List Bool}
theorem fO.len(h:fO w B g N X):X.length=N:=by
 have:(X.map Value.bool).length=N*1:=h.1;simpa using this
theorem fO.cell(h:fO w B g N X){m:Nat}(hm:m<N):w.cell? ⟨g,m,none⟩=some (.bool (X.getD m false))/\w.frozen? ⟨g,m,none⟩=false:=by
 have hl:=h.len;refine⟨?_,World.ownsRow.frozenAt h m⟩;rw[World.ownsRow.cellAt h m (by omega)];simp[List.getD,show m<X.length by omega]
theorem fO.set(h:fO w B g N X)(m:Nat)(v:Bool):fO (w.setCell ⟨g,m,none⟩ (.bool v)) B g N (X.set m v):=by
 have:=(World.ownsRow.stored h m (.bool v)).1;unfold fO
 rwa [List.map_set]
theorem fO.ge(h:fO w B g N X):N≠0->B<=g:=fun hN=>by
 obtain⟨g',c,e,h1,_⟩:=World.ownsRow.form h (by omega);cases e;exact h1
end
theorem Kl(w:World){N:Nat}(hN:N<=maxLen):fO (w.alloc (.cells (madeCells #[.bool false] N) 4)) w.heap.size w.heap.size N (List.replicate N false):=by
 have:=World.ownsRow_lit (base:=w.heap.size) (e:=4) (size:=1) w (madeCells #[.bool false] N) N (Nat.le_refl _) hN (by simp[size_madeCells]);rw[toList_madeCells_one]at this;unfold fO;simpa using this
theorem fO.below{w w':World}{B g N:Nat}{X:List Bool}(h:fO w B g N X)(hb:Below w.heap.size w w'):fO w' B g N X:=own_below h hb fun k hk=>(World.ownsRow.lt h k hk).2
theorem fO.mono{w:World}{B B' g N:Nat}{X:List Bool}(h:fO w B g N X)(hB:B'<=B):fO w B' g N X:=jE h hB
section
variable{ι:Type}{w w':World}{B:Nat}{c c':dP ι}{X X':ι->List Bool}
theorem XA(w:World)(B:Nat){c:dP ι}{X:ι->List Bool}(h:∀i,c.dom i=none):Bt w B c X:=
 ⟨fun i r hr=>by simp[dP.P,h i]at hr,fun i j a b _ ha=>by simp[dP.P,h i]at ha⟩
theorem F3(i:ι){n:Nat}(h:Bt w B c X)(hb:Below w.heap.size w w')(hd:c'.dom i=some n)(hrow:w'.ownsRow B 4 1 (c'.V i) n ((X' i).map Value.bool))(hnew:∀g,(c'.V i).ownBlock=some g->w.heap.size<=g)
 (he:∀j,j≠i->∀m,c'.dom j=some m->c.dom j=some m/\c'.V j=c.V j/\X' j=X j):Bt w' B c' X':=by
 have old:∀j r,j≠i->c'.P X' j=some r->c.P X j=some r:=fun j r hj hr=>by
  cases hm:c'.dom j with
  |none=>simp[dP.P,hm]at hr
  |some m=>
   obtain⟨h1,h2,h3⟩:=he j hj m hm;simp only[dP.P,hm,h1,Option.map_some,h2,h3]at hr⊢;exact hr
 have new:∀r,c'.P X' i=some r->r=⟨c'.V i,4,1,n,(X' i).map Value.bool⟩:=fun r hr=>by
  rw[dP.yC hd]at hr;exact(Option.some.inj hr).symm
 have hO:=au.below h hb (Nat.le_refl _);refine⟨fun j r hr=> ?_,fun j k a b hjk ha hb' g h1 h2=> ?_⟩
 ·by_cases hj:j=i
  ·subst hj
   rw[new r hr];exact hrow
  ·exact hO.own j r (old j r hj hr)
 ·by_cases hj:j=i
  ·subst hj
   have hk:k≠j:=fun e=>hjk e.symm;rw[new a ha]at h1;have:=hnew g h1;have:=(au.lt h (old k b hk hb') h2).2;omega
  ·by_cases hk:k=i
   ·subst hk
    rw[new b hb']at h2;have:=hnew g h2;have:=(au.lt h (old j a hj ha) h1).2;omega
   ·exact au.apart h j k a b hjk (old j a hj ha) (old k b hk hb') g h1 h2
end
def F4(R:List Ru)(i:Nat)(X:List Bool):List Bool:=if dR X (R.getD i (0,[])).2 then X.set (R.getD i (0,[])).1.toNat true else X
def oO(R:List Ru)(N:Nat):List Bool:=bO N (fun _=>bO R.length (F4 R)) (List.replicate N false)
def Km(l:List Sy)(k:Nat)(Y:List Bool):List Bool:=if (l.getD k (false,0)).1 then Y else Y.set (l.getD k (false,0)).2.toNat true
def F5(R:List Ru)(Mk:List Bool)(i:Nat)(X:List Bool):List Bool:=
 if X.getD (R.getD i (0,[])).1.toNat false&&dR Mk (R.getD i (0,[])).2 then bO (R.getD i (0,[])).2.length (Km (R.getD i (0,[])).2) X else X
def CK(R:List Ru)(N:Nat):List Bool:=bO N (fun _=>bO R.length (F5 R (oO R N))) ((List.replicate N false).set 0 ((oO R N).getD 0 false))
end Go.Proofs.YtpkmpkphfflpjaaGreat
namespace Go.Proofs.YtpkmpkphfflpjaaGreat
structure Stp where
 op:Int
 a:Int
 b:Int
 c:Int
def oP(r:Ru):Bool:=decide (0<r.2.length)&& !(r.2.getD 0 (false,0)).1&&decide ((r.2.getD 0 (false,0)).2=r.1)
def gM(a:Int)(r:Ru):Bool:=decide (r.1=a)&&oP r
def oQ(R:List Ru)(a:Int):Bool:=R.any (gM a)&&R.all fun r=> !(gM a r&&decide (r.2.length=1))
def aR(N:Int)(R:List Ru)(s:Stp):Bool:=
 let r:=R.getD s.a.toNat (0,[])
 let rule:=decide (0<=s.a)&&decide (s.a<(R.length:Int))
 if s.op=1 then decide (1<=s.a)&&decide (s.a<N)&&decide (1<=s.b)&&decide (s.b<N)&&decide (s.c=0)
 else if s.op=2 then rule&&decide (0<=s.b)&&decide (s.b<s.c)&&decide (s.c<=(r.2.length:Int))
 else if s.op=3 then rule&&decide (0<=s.b)&&decide (s.b<(r.2.length:Int))&&decide (s.c=0)&& !(r.2.getD s.b.toNat (false,0)).1&& !decide ((r.2.getD s.b.toNat (false,0)).2=r.1)
 else if s.op=4 then decide (s.b=0)&&decide (s.c=0)&&oQ R s.a
 else if s.op=5 then decide (s.a=0)&&decide (s.b=0)&&decide (s.c=0)
 else false
def jl(a b n:Int):Int:=if n=a then b else if n=b then a else n
def nH(a b:Int)(x:Sy):Sy:=if x.1 then x else (false,jl a b x.2)
def fu(N:Nat)(R:List Ru)(r:Ru):Bool:=(oO R N).getD r.1.toNat false&&(CK R N).getD r.1.toNat false&&dR (oO R N) r.2
def Ae(b:Nat)(r x:Ru):Ru:=(r.1,r.2.take b++x.2++r.2.drop (b+1))
def mP(N:Nat)(R:List Ru)(s:Stp)(k:Nat):List Ru:=
 let r:=R.getD k (0,[])
 if s.op=1 then [(jl s.a s.b r.1,r.2.map (nH s.a s.b))]
 else if s.op=2 then [if (k:Int)=s.a then (r.1,r.2.take s.b.toNat++(false,(N:Int))::r.2.drop s.c.toNat) else r]
 else if s.op=3 then (if (k:Int)=s.a then (R.filter fun x=>decide (x.1=(r.2.getD s.b.toNat (false,0)).2)).map (Ae s.b.toNat r) else [r])
 else if s.op=4 then [if r.1=s.a then (if oP r then ((N:Int),r.2.drop 1++[(false,(N:Int))]) else (r.1,r.2++[(false,(N:Int))])) else r]
 else if s.op=5 then (if fu N R r then [r] else [])
 else [r]
def jU(N:Nat)(R:List Ru)(s:Stp):List Ru:=
 if s.op=2 then [((N:Int),((R.getD s.a.toNat (0,[])).2.take s.c.toNat).drop s.b.toNat)] else if s.op=4 then [((N:Int),[])] else []
def aM(N:Nat)(R:List Ru)(s:Stp):List Ru:=(List.range R.length).flatMap (mP N R s)++jU N R s
def gm(N:Nat)(s:Stp):Nat:=if s.op=2 then N+1 else if s.op=4 then N+1 else N
section
variable{P:Program}{ops:Array Oper}{Q:Exit->Act->World->Prop}{md:Region.Mode}{S:World->Prop}
def nV(P:Program)(md:Region.Mode)(ops:Array Oper)(Q:Exit->Act->World->Prop)(S:World->Prop)(n:Nat):Nat->Array Bool->Act->World->Prop
 |0,listed,a,w=>Region.ready md ops listed=[]/\Q .normal a w
 |fuel+1,listed,a,w=>
  (Region.ready md ops listed=[]->Q .normal a w)/\
  ∀i∈Region.ready md ops listed,wpOp P ops Q i (fun a' w'=>(i<n->S w')/\nV P md ops Q S n fuel (listed.setIfInBounds i true) a' w') a w
theorem F6{n:Nat}:∀(fuel:Nat) (listed:Array Bool) (a:Act) (w:World),nV P md ops Q S n fuel listed a w->wpAny P md ops Q fuel listed a w
 |0,_,_,_,h=>h
 |fuel+1,_,_,_,h=>⟨h.1,fun i hi=>wpOp_mono (fun a' w' h'=>F6 fuel _ a' w' h'.2) (h.2 i hi)⟩
theorem F7{n i:Nat}{oi:Oper}{v:Value}(hi:ops[i]?=some oi)(hsel:∀(j:Nat) (o:Oper) cs b,ops[j]?=some o->o.op≠ .select cs b)
 (hQ:∀c a w,Q (.panic c) (a.put oi.dst v) w->Q (.panic c) a w) (hs:Region.sinkB md ops n=true) (hc:Region.chainB md ops n=true) (hn:n<ops.size) (hin:i<n):
 ∀(fuel:Nat) (listed:Array Bool) (a:Act) (w:World),HeadInv md ops n listed->
  (∀j oj,ops[j]?=some oj->j≠i->listed.getD j true=false->(∀e∈oj.after,Region.binds md e=true->e.on≠i)->oi.apart ops oj=true)->
  i∈Region.ready md ops listed->YieldsIf P ops S oi v a->S w->
  nV P md ops Q S n fuel (listed.setIfInBounds i true) (a.put oi.dst v) w->nV P md ops Q S n (fuel+1) listed a w:=by
 intro fuel
 induction fuel with
 |zero=>
  intro listed a w _ _ hr hy hS H;refine⟨fun h=>(by rw[h]at hr;cases hr),fun j hj=> ?_⟩;by_cases hji:j=i
  ·subst hji;exact hy.wpOp hi hS ⟨fun _=>hS,H⟩
  ·have:=ready_mono hj hji
   rw[H.1]at this;cases this
 |succ fuel ih=>
  intro listed a w inv hfree hr hy hS H;have hun:=(mem_ready.1 hr).1;refine⟨fun h=>(by rw[h]at hr;cases hr),fun j hj=> ?_⟩;by_cases hji:j=i
  ·subst hji;exact hy.wpOp hi hS ⟨fun _=>hS,H⟩
  ·have hjn:j<n:=by
    rcases Nat.lt_or_ge j n with h|h
    ·exact h
    ·exact absurd hj (tail_waits hs hc hn inv _ i rfl hin hun j h)
   have h1:=H.2 j (ready_mono hj hji);obtain⟨hjun,oj,hoj,hall⟩:=mem_ready.1 hj
   have hnot:∀e∈oj.after,Region.binds md e=true->e.on≠i:=fun e he hb heq=>by
    have h1:=hall e he hb;rw[heq,getD_both hun]at h1;cases h1
   have h2:=wpOp_putIf hoj (hfree j oj hoj hji hjun hnot) (fun cs b=>hsel i oi cs b hi) (fun cs b=>hsel j oj cs b hoj) hQ hy h1
   have hfree':∀k ok,ops[k]?=some ok->k≠i->(listed.setIfInBounds j true).getD k true=false->
    (∀e∈ok.after,Region.binds md e=true->e.on≠i)->oi.apart ops ok=true:=fun k ok hk hki hun hno=>by
    refine hfree k ok hk hki ?_ hno;by_cases hjk:j=k
    ·subst hjk;exact hjun
    ·rw[getD_set_ne true hjk]at hun;exact hun
   refine wpOp_mono (fun a' w' h3=>⟨h3.2.1,ih (listed.setIfInBounds j true) a' w' (inv.set hj hjn) hfree' (ready_mono hr (Ne.symm hji)) h3.1 (h3.2.1 hjn) ?_⟩) h2;rw[Array.setIfInBounds_comm _ _ hji];exact h3.2.2
def F8(P:Program)(ops:Array Oper)(S:World->Prop)(K:Act->Prop):List Oper->Act->Prop
 | [],a=>K a
 |o::l,a=> ∃v,YieldsIf P ops S o v a/\F8 P ops S K l (a.put o.dst v)
theorem F8.cons{K:Act->Prop}{o:Oper}{l:List Oper}{a:Act}{v:Value}(hw:Region.wanted o (yielded ops a.tmps)=true)(hy:∀w,S w->(execOp a.eval o).run P w= .ok (.value v) w)(h:F8 P ops S K l (a.put o.dst v)):F8 P ops S K (o::l) a:=
 ⟨v,.inl ⟨hw,hy⟩,h⟩
end
section
variable{P:Program}{ops:Array Oper}{Q:Exit->Act->World->Prop}{md:Region.Mode}{S:World->Prop}
def CO(md:Region.Mode)(ops:Array Oper):List Nat->Array Bool->Bool
 | [],listed=>(Region.ready md ops listed).isEmpty
 |k::ks,listed=>decide (Region.ready md ops listed=[k])&&CO md ops ks (listed.setIfInBounds k true)
def CP(md:Region.Mode)(ops:Array Oper)(ts:List Nat):List Nat->Array Bool->Bool
 | [],listed=>CO md ops ts listed
 |k::ks,listed=>(Region.ready md ops listed).contains k&&Region.free md ops listed k&&CP md ops ts ks (listed.setIfInBounds k true)
def aU(P:Program)(ops:Array Oper)(S:World->Prop)(K:Act->Prop):List Nat->Act->Prop
 | [],a=>K a
 |i::l,a=> ∃o v,ops[i]?=some o/\YieldsIf P ops S o v a/\aU P ops S K l (a.put o.dst v)
theorem aU.cons{K:Act->Prop}{i:Nat}{o:Oper}{l:List Nat}{a:Act}{v:Value}(ho:ops[i]?=some o)(hw:Region.wanted o (yielded ops a.tmps)=true)(hy:∀w,S w->(execOp a.eval o).run P w= .ok (.value v) w)(h:aU P ops S K l (a.put o.dst v)):aU P ops S K (i::l) a:=
 ⟨o,v,ho,.inl ⟨hw,hy⟩,h⟩
def dQ(P:Program)(ops:Array Oper)(Q:Exit->Act->World->Prop)(S:World->Prop)(n:Nat):List Nat->Act->World->Prop
 | [],a,w=>Q .normal a w
 |k::l,a,w=> ∃o,ops[k]?=some o/\∀K:Act->World->Prop,Shut (∀a w,(k<n->S w)->dQ P ops Q S n l a w->K a w)->if Region.wanted o (yielded ops a.tmps)=true then Oper.wp P o a w K Q else K (a.put o.dst undef) w
theorem dQ.cons{n k:Nat}{o:Oper}{l:List Nat}{a:Act}{w:World}(ho:ops[k]?=some o)(h:∀K:Act->World->Prop,Shut (∀a w,(k<n->S w)->dQ P ops Q S n l a w->K a w)->if Region.wanted o (yielded ops a.tmps)=true then Oper.wp P o a w K Q else K (a.put o.dst undef) w):dQ P ops Q S n (k::l) a w:=⟨o,ho,h⟩
theorem Px{n:Nat}:∀(l:List Nat) (listed:Array Bool) (a:Act) (w:World),CO md ops l listed=true->dQ P ops Q S n l a w->nV P md ops Q S n l.length listed a w
 | [],_,_,_,hB,h=>⟨by simpa [CO] using hB,h⟩
 |k::l,listed,a,w,hB,h=>by
  simp only[CO,Bool.and_eq_true,decide_eq_true_eq]at hB;obtain⟨o,h0,h⟩:=h;refine⟨fun h1=>(by rw[hB.1]at h1;cases h1),fun i hi=> ?_⟩;rw[hB.1]at hi;have hik:i=k:=by simpa using hi
  subst hik
  have h1:=h (fun a' w'=>(i<n->S w')/\nV P md ops Q S n l.length (listed.setIfInBounds i true) a' w')
   (fun a' w' hS hT=>⟨hS,Px l _ a' w' hB.2 hT⟩)
  unfold wpOp;simp only[h0];split
  ·rename_i hw
   rw[if_pos hw]at h1;exact .inl h1
  ·rename_i hw
   rw[if_neg hw]at h1;exact h1
theorem Py{n:Nat}{ts:List Nat}(hsel:Region.noSelect ops=true)(hQ:∀c a d v w,Q (.panic c) (a.put d v) w->Q (.panic c) a w)(hs:Region.sinkB md ops n=true)(hc:Region.chainB md ops n=true)(hn:n<ops.size){w:World}(hS:S w):
 ∀(l:List Nat) (listed:Array Bool) (a:Act),(∀i∈l,i<n)->HeadInv md ops n listed->CP md ops ts l listed=true->aU P ops S (fun a'=>dQ P ops Q S n ts a' w) l a->
 nV P md ops Q S n (l.length+ts.length) listed a w
 | [],listed,a,_,_,hB,h=>by
  simp only[List.length_nil,Nat.zero_add];exact Px ts listed a w (by simpa [CP] using hB) h
 |k::l,listed,a,hl,inv,hB,h=>by
  simp only[CP,Bool.and_eq_true]at hB;obtain⟨⟨hr,hf⟩,hB'⟩:=hB;have hkn:=hl k (by simp);have hr':k∈Region.ready md ops listed:=by simpa using hr
  obtain⟨o,v,h0,hy,hK⟩:=h;rw[show (k::l).length+ts.length=(l.length+ts.length)+1 by simp only[List.length_cons];omega]
  exact F7 h0 (Region.noSelect_spec hsel) (fun c a w=>hQ c a _ _ w) hs hc hn hkn _ listed a w inv (Region.free_spec h0 hf) hr' hy hS
   (Py hsel hQ hs hc hn hS l _ _ (fun i hi=>hl i (List.mem_cons_of_mem _ hi)) (inv.set hr' hkn) hB' hK)
def Pz(ops:Array Oper)(hs ts:List Nat)(n:Nat):Bool:=
 Region.noSelect ops&&decide (n<ops.size)&&Region.sinkB .any ops n&&Region.chainB .any ops n&&(hs.all fun i=>decide (i<n))&&decide (hs.length+ts.length=ops.size)&&CP .any ops ts hs (Array.replicate ops.size false)
theorem F9{id:Nat}{a:Act}{w:World}(hs ts:List Nat)(n:Nat)(S:World->Prop)(hm:P.follows .mixedOrders=true)(hB:Pz ops hs ts n=true)(hS:S w.drew)
 (h:aU P ops S (fun a'=>dQ P ops (NoPanic Q) S n ts a' w.drew) hs a):(Code.region id ops true).wp P Q a w:=by
 simp only[Pz,Bool.and_eq_true,decide_eq_true_eq,List.all_eq_true]at hB;obtain⟨⟨⟨⟨⟨⟨hsel,hn⟩,hsk⟩,hc⟩,hl⟩,hlen⟩,hlex⟩:=hB
 have inv0:HeadInv .any ops n (Array.replicate ops.size false):=
  ⟨by simp,fun j oj _ hl=>(by rw[getD_replicate_false]at hl;cases hl),fun t _ ht=>Go.getD_in (by simpa using ht) (getD_replicate_false _ _)⟩
 refine wp_region_noPanic (wp_region_any hm (F6 (S:=S) (n:=n) _ _ _ _ ?_));have:=Py (md:= .any) (Q:=NoPanic Q) hsel (fun _ _ _ _ _ h=>h) hsk hc hn hS hs _ a hl inv0 hlex h;rw[hlen]at this;exact this
end
end Go.Proofs.YtpkmpkphfflpjaaGreat
