import Derived.Test.YtpkmpkphfflpjaaGreatMathAndHeldSeq
import Derived.Deep.RegionLaw
import Derived.Deep.RegionWith
import Derived.Deep.Cut
import Derived.Deep.CutRange
import Derived.Deep.DrawnRows
namespace Go.Proofs.YtpkmpkphfflpjaaGreat
open Classical
def Lv(F:(Int->Prop)->Int->Prop):Nat->Int->Prop
 |0,_=>False
 |k+1,n=>F (Lv F k) n
structure vw(N:Nat)(F:(Int->Prop)->Int->Prop):Prop where
 mono:∀A B:Int->Prop,(∀n,A n->B n)->∀n,F A n->F B n
 bound:∀A n,F A n->0<=n/\n<(N:Int)
theorem CZ{N:Nat}{F:(Int->Prop)->Int->Prop}(h:vw N F):∀k n,Lv F k n->Lv F (k+1) n:=by
 intro k
 induction k with
 |zero=>intro n hn;exact hn.elim
 |succ k ih=>intro n hn;exact h.mono _ _ ih n hn
theorem Yk{N:Nat}{F:(Int->Prop)->Int->Prop}(h:vw N F){k m:Nat}(hkm:k<=m):∀n,Lv F k n->Lv F m n:=by
 induction hkm with
 |refl=>intro n hn;exact hn
 |step _ ih=>intro n hn;exact CZ h _ n (ih n hn)
noncomputable def cnt(N:Nat)(A:Int->Prop):Nat:=((List.range N).filter fun i=>decide (A (i:Nat))).length
theorem Yl(N:Nat)(A:Int->Prop):cnt N A<=N:=by
 have:=List.length_filter_le (fun i:Nat=>decide (A i)) (List.range N);simpa [cnt] using this
theorem filter_lt{α:Type}(p q:α->Bool)(h:∀x,p x=true->q x=true):∀(l:List α),
 (l.filter p).length<=(l.filter q).length/\((∃x∈l,q x=true/\p x=false)->(l.filter p).length<(l.filter q).length):=by
 intro l
 induction l with
 |nil=>simp
 |cons a r ih=>
  obtain⟨ih1,ih2⟩:=ih;cases hp:p a with
  |true=>
   have hq:=h a hp;simp only[List.filter_cons,hp,hq,if_true,List.length_cons];refine⟨by omega,?_⟩;rintro ⟨x,hx,h1,h2⟩
   have:x∈r:=by
    rcases List.mem_cons.1 hx with rfl|hx
    ·rw[hp]at h2;cases h2
    ·exact hx
   have:=ih2 ⟨x,this,h1,h2⟩;omega
  |false=>
   cases hq:q a with
   |true=>
    simp only[List.filter_cons,hp,hq,if_true,List.length_cons,Bool.false_eq_true,if_false];exact⟨by omega,fun _=>by omega⟩
   |false=>
    simp only[List.filter_cons,hp,hq,Bool.false_eq_true,if_false];refine⟨ih1,?_⟩;rintro ⟨x,hx,h1,h2⟩
    have:x∈r:=by
     rcases List.mem_cons.1 hx with rfl|hx
     ·rw[hq]at h1;cases h1
     ·exact hx
    exact ih2 ⟨x,this,h1,h2⟩
theorem cnt_lt{N:Nat}{A B:Int->Prop}(h:∀n,A n->B n){n:Int}(h0:0<=n)(h1:n<(N:Int))(hb:B n)(ha:¬A n):cnt N A<cnt N B:=by
 obtain⟨k,rfl⟩:∃k:Nat,n=k:=⟨n.toNat,by omega⟩;refine(filter_lt (fun i:Nat=>decide (A i)) (fun i:Nat=>decide (B i)) (fun x hx=> ?_) (List.range N)).2 ⟨k,List.mem_range.2 (by omega),?_,?_⟩
 ·simp only[decide_eq_true_eq]at hx⊢;exact h _ hx
 ·simpa using hb
 ·simpa using ha
theorem Ym{N:Nat}{F:(Int->Prop)->Int->Prop}(h:vw N F):∀m n,Lv F m n->Lv F N n:=by
 have ex:∃k,k<=N/\∀n,Lv F (k+1) n->Lv F k n:=by
  refine byContradiction fun hno=> ?_
  have grow:∀k,k<=N+1->k<=cnt N (Lv F k):=by
   intro k
   induction k with
   |zero=>intro _;exact Nat.zero_le _
   |succ k ih=>
    intro hk;have h1:=ih (by omega)
    have h2:∃n,Lv F (k+1) n/\¬Lv F k n:=by
     refine byContradiction fun hn=>hno ⟨k,by omega,fun n hn'=>byContradiction fun hc=>hn ⟨n,hn',hc⟩⟩
    obtain⟨n,h3,h4⟩:=h2;have hb:=h.bound _ n h3;have:=cnt_lt (CZ h k) hb.1 hb.2 h3 h4;omega
  have h1:=grow (N+1) (Nat.le_refl _);have h2:=Yl N (Lv F (N+1));omega
 obtain⟨k,hk,hstop⟩:=ex
 have all:∀m n,Lv F m n->Lv F k n:=by
  intro m
  induction m with
  |zero=>intro n hn;exact hn.elim
  |succ m ih=>intro n hn;exact hstop n (h.mono _ _ ih n hn)
 exact fun m n hn=>Yk h hk n (all m n hn)
theorem jo{N:Nat}{F:(Int->Prop)->Int->Prop}(h:vw N F):∀n,F (Lv F N) n->Lv F N n:=fun n hn=>Ym h (N+1) n hn
theorem C8{F:(Int->Prop)->Int->Prop}(mono:∀A B:Int->Prop,(∀n,A n->B n)->∀n,F A n->F B n){A:Int->Prop}(hA:∀n,F A n->A n):∀k n,Lv F k n->A n:=by
 intro k
 induction k with
 |zero=>intro n hn;exact hn.elim
 |succ k ih=>intro n hn;exact hA n (mono _ _ ih n hn)
def kR(A:Int->Prop)(l:List Sy):Prop:=∀s∈l,s.1=false/\A s.2
def yJ(R:List Ru)(A:Int->Prop)(n:Int):Prop:=∃r∈R,r.1=n/\kR A r.2
def jG(Nu A:Int->Prop)(t:Int)(l:List Sy):Prop:=∃i s,l[i]?=some s/\((s.1=true/\s.2=t)\/(s.1=false/\A s.2))/\kR Nu (l.take i)
def wP(R:List Ru)(Nu:Int->Prop)(t:Int)(A:Int->Prop)(n:Int):Prop:=∃r∈R,r.1=n/\jG Nu A t r.2
def vz(R:List Ru)(Nu:Int->Prop)(Fi:Int->Int->Prop)(T t:Int)(A:Int->Prop)(n:Int):Prop:=
 (n=0/\t=T)\/∃r∈R,∃k,r.2[k]?=some (false,n)/\((t<T/\jG Nu (Fi t) t (r.2.drop (k+1)))\/(kR Nu (r.2.drop (k+1))/\A r.1))
theorem kR.mono{A B:Int->Prop}(h:∀n,A n->B n){l:List Sy}(hl:kR A l):kR B l:=fun s hs=>⟨(hl s hs).1,h _ (hl s hs).2⟩
theorem jG.mono{Nu A B:Int->Prop}{t:Int}(h:∀n,A n->B n){l:List Sy}(hl:jG Nu A t l):jG Nu B t l:=by
 obtain⟨i,s,h1,h2,h3⟩:=hl;refine⟨i,s,h1,?_,h3⟩;rcases h2 with h2|⟨h2,h4⟩
 ·exact .inl h2
 ·exact .inr ⟨h2,h _ h4⟩
theorem Qe(R:List Ru)(A B:Int->Prop)(h:∀n,A n->B n)(n:Int)(hn:yJ R A n):yJ R B n:=by
 obtain⟨r,h1,h2,h3⟩:=hn;exact⟨r,h1,h2,h3.mono h⟩
theorem Qf(R:List Ru)(Nu:Int->Prop)(t:Int)(A B:Int->Prop)(h:∀n,A n->B n)(n:Int)(hn:wP R Nu t A n):wP R Nu t B n:=by
 obtain⟨r,h1,h2,h3⟩:=hn;exact⟨r,h1,h2,h3.mono h⟩
theorem Qg(R:List Ru)(Nu:Int->Prop)(Fi:Int->Int->Prop)(T t:Int)(A B:Int->Prop)(h:∀n,A n->B n)(n:Int)(hn:vz R Nu Fi T t A n):vz R Nu Fi T t B n:=by
 rcases hn with hn|⟨r,h1,k,h2,h3⟩
 ·exact .inl hn
 ·refine .inr ⟨r,h1,k,h2,?_⟩
  rcases h3 with h3|⟨h3,h4⟩
  ·exact .inl h3
  ·exact .inr ⟨h3,h _ h4⟩
structure cO(T N:Nat)(R:List Ru):Prop where
 left:∀r∈R,0<=r.1/\r.1<(N:Int)
 name:∀r∈R,∀s∈r.2,s.1=false->0<=s.2/\s.2<(N:Int)
 term:∀r∈R,∀s∈r.2,s.1=true->0<=s.2/\s.2<(T:Int)
 some:1<=N
section
variable{T N:Nat}{R:List Ru}(h:cO T N R)
include h
theorem KD:vw N (yJ R):=⟨fun A B=>Qe R A B,fun A n hn=>by obtain⟨r,h1,rfl,_⟩:=hn;exact h.left r h1⟩
theorem Gq(Nu:Int->Prop)(t:Int):vw N (wP R Nu t):=⟨fun A B=>Qf R Nu t A B,fun A n hn=>by obtain⟨r,h1,rfl,_⟩:=hn;exact h.left r h1⟩
theorem C9(Nu:Int->Prop)(Fi:Int->Int->Prop)(t:Int):vw N (vz R Nu Fi T t):=⟨fun A B=>Qg R Nu Fi T t A B,fun A n hn=>by
 rcases hn with⟨rfl,_⟩|⟨r,h1,k,h2,_⟩
 ·have:=h.some;omega
 ·exact h.name r h1 _ (List.mem_of_getElem? h2) rfl⟩
end
def dS(N:Nat)(R:List Ru):Int->Prop:=Lv (yJ R) N
def iy(N:Nat)(R:List Ru)(t:Int):Int->Prop:=Lv (wP R (dS N R) t) N
def oW(T N:Nat)(R:List Ru)(t:Int):Int->Prop:=Lv (vz R (dS N R) (iy N R) T t) N
end Go.Proofs.YtpkmpkphfflpjaaGreat
namespace Go.Proofs.YtpkmpkphfflpjaaGreat
def hasB(X:List Bool)(n:Int):Prop:=0<=n/\X.getD n.toNat false=true
def nY(A:Int->Prop)(l:List Sy):Prop:=∀s∈l,s.1=false->A s.2
def yK(R:List Ru)(A:Int->Prop)(n:Int):Prop:=∃r∈R,r.1=n/\nY A r.2
def Da(R:List Ru)(M A:Int->Prop)(n:Int):Prop:=(n=0/\M 0)\/∃r∈R,(false,n)∈r.2/\nY M r.2/\A r.1
def eH(N:Nat)(R:List Ru):Int->Prop:=Lv (yK R) N
def lK(N:Nat)(R:List Ru):Int->Prop:=Lv (Da R (eH N R)) N
theorem nY.mono{A B:Int->Prop}(h:∀n,A n->B n){l:List Sy}(hl:nY A l):nY B l:=fun s hs hb=>h _ (hl s hs hb)
theorem Qh(R:List Ru)(A B:Int->Prop)(h:∀n,A n->B n)(n:Int)(hn:yK R A n):yK R B n:=by
 obtain⟨r,h1,h2,h3⟩:=hn;exact⟨r,h1,h2,h3.mono h⟩
theorem Qi(R:List Ru)(M:Int->Prop)(A B:Int->Prop)(h:∀n,A n->B n)(n:Int)(hn:Da R M A n):Da R M B n:=by
 rcases hn with hn|⟨r,h1,h2,h3,h4⟩
 ·exact .inl hn
 ·exact .inr ⟨r,h1,h2,h3,h _ h4⟩
section
variable{T N:Nat}{R:List Ru}(h:cO T N R)
include h
theorem Gr:vw N (yK R):=⟨fun A B=>Qh R A B,fun A n hn=>by obtain⟨r,h1,rfl,_⟩:=hn;exact h.left r h1⟩
theorem Au(M:Int->Prop):vw N (Da R M):=⟨fun A B=>Qi R M A B,fun A n hn=>by
 rcases hn with⟨rfl,_⟩|⟨r,h1,h2,_⟩
 ·have:=h.some;omega
 ·exact h.name r h1 _ h2 rfl⟩
end
theorem wQ{X:List Bool}{l:List Sy}(h:∀s∈l,s.1=false->0<=s.2):dR X l=true↔nY (hasB X) l:=by
 unfold dR nY hasB;rw[List.all_eq_true];constructor
 ·intro hh s hs hb
  have:=hh s hs;rw[hb]at this;exact⟨h s hs hb,by simpa using this⟩
 ·intro hh s hs
  cases hb:s.1 with
  |true=>rfl
  |false=>rw[(hh s hs hb).2];rfl
theorem jV{R:List Ru}{i:Nat}(hi:i<R.length):R.getD i (0,[])∈R:=by simp[List.getD,hi]
theorem Db{R:List Ru}{r:Ru}(hr:r∈R):∃i,i<R.length/\R.getD i (0,[])=r:=by
 obtain⟨i,hi,rfl⟩:=List.getElem_of_mem hr;exact⟨i,hi,by simp[List.getD,hi]⟩
theorem rW{v:Int}(h:0<=v):((v.toNat:Nat):Int)=v:=by omega
end Go.Proofs.YtpkmpkphfflpjaaGreat
namespace Go.Proofs.YtpkmpkphfflpjaaGreat
open Go.RowKit
def set2(F:List (List Bool))(n t:Nat):List (List Bool):=F.set n ((F.getD n []).set t true)
theorem Yn(F:List (List Bool))(n t:Nat):(set2 F n t).length=F.length:=by simp[set2]
theorem Dc(F:List (List Bool))(n t m:Nat):(set2 F n t).getD m []=if m=n/\n<F.length then (F.getD n []).set t true else F.getD m []:=by
 unfold set2;by_cases h:m=n
 ·subst h
  by_cases hl:m<F.length
  ·simp[List.getD,hl]
  ·simp[List.getD,hl]
 ·have h':n≠m:=fun e=>h e.symm
  simp[List.getD,List.getElem?_set_ne h',h]
inductive Ix where
 |st|null|fh|gh
 |f (n:Nat)
 |g (n:Nat)
 deriving DecidableEq
def bT(sb T N mf mg:Nat)(nv fv gv:Value)(vf vg:Nat->Value)(Nu:List Bool)(Fi Fo:List (List Bool)):Ix->Option Row
 | .st=>some ⟨.slice (some ⟨sb,0,none⟩) 1 1,84,3,1,[nv,fv,gv]⟩
 | .null=>some ⟨nv,4,1,N,Nu.map Value.bool⟩
 | .fh=>some ⟨fv,81,1,mf,(List.range mf).map vf⟩
 | .gh=>some ⟨gv,81,1,mg,(List.range mg).map vg⟩
 | .f n=>if n<mf then some ⟨vf n,4,1,T,(Fi.getD n []).map Value.bool⟩ else none
 | .g n=>if n<mg then some ⟨vg n,4,1,T+1,(Fo.getD n []).map Value.bool⟩ else none
section
variable{w:World}{base sb T N mf mg:Nat}{nv fv gv:Value}{vf vg:Nat->Value}{Nu:List Bool}{Fi Fo:List (List Bool)}
theorem au.fields(h:au w base (bT sb T N mf mg nv fv gv vf vg Nu Fi Fo)):
 w.cell? ⟨sb,0,none⟩=some nv/\w.cell? ⟨sb,1,none⟩=some fv/\w.cell? ⟨sb,2,none⟩=some gv/\(∀j,w.frozen? ⟨sb,j,none⟩=false):=by
 have hh:=h.own .st _ rfl;simp only at hh;exact⟨hh.cellAt 0 (by omega),hh.cellAt 1 (by omega),hh.cellAt 2 (by omega),hh.frozenAt⟩
theorem au.Yo(h:au w base (bT sb T N mf mg nv fv gv vf vg Nu Fi Fo))(hF:Fo.length=mg){n fg fc:Nat}(hn:n<mg)(hv:vg n= .slice (some ⟨fg,0,none⟩) (T+1) fc)(t:Nat):
 au (w.setCell ⟨fg,t,none⟩ (.bool true)) base (bT sb T N mf mg nv fv gv vf vg Nu Fi (set2 Fo n t)):=by
 have:=h.store (i:= .g n) (g:=fg) (n:=T+1) (cap:=fc) (e:=4) (size:=1) (xs:=(Fo.getD n []).map Value.bool) (by simp[bT,hn,hv]) t (.bool true)
 have e:upd (bT sb T N mf mg nv fv gv vf vg Nu Fi Fo) (.g n) ⟨.slice (some ⟨fg,0,none⟩) (T+1) fc,4,1,T+1,((Fo.getD n []).map Value.bool).set t (.bool true)⟩=bT sb T N mf mg nv fv gv vf vg Nu Fi (set2 Fo n t):=by
  funext x
  cases x with
  |g m=>
   by_cases hm:m=n
   ·subst hm
    simp only[upd,bT,if_true,hn];rw[Dc,if_pos ⟨rfl,by omega⟩,List.map_set,hv]
   ·have:Ix.g m≠Ix.g n:=fun e=>hm (by cases e;rfl)
    simp only[upd,bT,if_neg this];have e2:∀X:List (List Bool),(set2 X n t).getD m []=X.getD m []:=fun X=>by rw[Dc,if_neg (fun e=>hm e.1)]
    rw[e2]
  |_=>simp[upd,bT]
 rwa [e]at this
theorem au.make{ι:Type}[DecidableEq ι]{w:World}{base:Nat}{P:ι->Option Row}(h:au w base P)(i:ι)(n:Nat)(hb:base<=w.heap.size)(hn:n<=maxLen):
 au (w.alloc (.cells (madeCells #[.bool false] n) 4)) base (upd P i ⟨.slice (some ⟨w.heap.size,0,none⟩) n n,4,1,n,(List.replicate n false).map Value.bool⟩):=by
 refine h.new i (World.grownBy_alloc w _ none) ?_ (fun g hg=>by simpa [Value.ownBlock] using hg.symm);have:=World.ownsRow_lit (base:=base) (e:=4) (size:=1) w (madeCells #[.bool false] n) n hb hn (by simp[size_madeCells]);rw[toList_madeCells_one]at this;simpa using this
theorem au.Yp{m:Nat}(h:au w base (bT sb T N m mg nv fv gv vf vg Nu Fi Fo))(hF:Fi.length=m)(hb:base<=w.heap.size)(hT:T<=maxLen){w1:World}{o:Obj}{g cap:Nat}
 (hg:((w.alloc (.cells (madeCells #[.bool false] T) 4)).alloc o).drew.grownBy w1 fv.ownBlock)
 (hown:w1.ownsRow base 81 1 (.slice (some ⟨g,0,none⟩) (m+1) cap) (m+1) ((List.range m).map vf++[.slice (some ⟨w.heap.size,0,none⟩) T T])) (hat:fv.ownBlock=some g\/g=w.heap.size+2):
 au (w1.setCell ⟨sb,1,none⟩ (.slice (some ⟨g,0,none⟩) (m+1) cap)) base
  (bT sb T N (m+1) mg nv (.slice (some ⟨g,0,none⟩) (m+1) cap) gv (fun n=>if n=m then .slice (some ⟨w.heap.size,0,none⟩) T T else vf n) vg Nu (Fi++[List.replicate T false]) Fo):=by
 have h1:=((h.make (.f m) T hb hT).alloc o).drew
 have h2:=h1.turn (i:= .fh) (r:=⟨fv,81,1,m,(List.range m).map vf⟩) (r':=⟨.slice (some ⟨g,0,none⟩) (m+1) cap,81,1,m+1,(List.range m).map vf++[.slice (some ⟨w.heap.size,0,none⟩) T T]⟩)
  (by rw[qR _ (by simp)];rfl) hg hown (fun k hk=>by
   simp only[Value.ownBlock,Option.some.injEq]at hk;subst hk
   simpa using hat)
 have h3:=h2.store (i:= .st) (g:=sb) (n:=1) (cap:=1) (e:=84) (size:=3) (xs:=[nv,fv,gv]) (by rw[qR _ (by simp),qR _ (by simp)];rfl) 1 (.slice (some ⟨g,0,none⟩) (m+1) cap)
 have e:upd (upd (upd (bT sb T N m mg nv fv gv vf vg Nu Fi Fo) (.f m) ⟨.slice (some ⟨w.heap.size,0,none⟩) T T,4,1,T,(List.replicate T false).map Value.bool⟩) .fh
  ⟨.slice (some ⟨g,0,none⟩) (m+1) cap,81,1,m+1,(List.range m).map vf++[.slice (some ⟨w.heap.size,0,none⟩) T T]⟩) .st ⟨.slice (some ⟨sb,0,none⟩) 1 1,84,3,1,[nv,fv,gv].set 1 (.slice (some ⟨g,0,none⟩) (m+1) cap)⟩=
  bT sb T N (m+1) mg nv (.slice (some ⟨g,0,none⟩) (m+1) cap) gv (fun n=>if n=m then .slice (some ⟨w.heap.size,0,none⟩) T T else vf n) vg Nu (Fi++[List.replicate T false]) Fo:=by
  funext x
  cases x with
  |st=>simp[upd,bT]
  |null=>simp[upd,bT]
  |gh=>simp[upd,bT]
  |g n=>simp[upd,bT]
  |fh=>
   simp only[upd,bT];simp only[reduceCtorEq,if_false,if_true]
   congr 2
   rw[List.range_succ,List.map_append]
   congr 1
   ·refine List.map_congr_left fun a ha=> ?_
    have:=List.mem_range.1 ha;rw[if_neg (by omega)]
   ·simp
  |f n=>
   simp only[upd,bT,reduceCtorEq,if_false,Ix.f.injEq];by_cases hn:n=m
   ·subst hn
    simp[List.getD,hF]
   ·by_cases hlt:n<m
    ·rw[if_neg hn,if_pos hlt,if_pos (by omega),if_neg hn]
     simp[List.getD,List.getElem?_append_left (show n<Fi.length by omega)]
    ·rw[if_neg hn,if_neg hlt,if_neg (by omega)]
 rwa [e]at h3
theorem au.Yq{m:Nat}(h:au w base (bT sb T N mf m nv fv gv vf vg Nu Fi Fo))(hF:Fo.length=m)(hb:base<=w.heap.size)(hT:T+1<=maxLen){w1:World}{o:Obj}{g cap:Nat}
 (hg:((w.alloc (.cells (madeCells #[.bool false] (T+1)) 4)).alloc o).drew.grownBy w1 gv.ownBlock)
 (hown:w1.ownsRow base 81 1 (.slice (some ⟨g,0,none⟩) (m+1) cap) (m+1) ((List.range m).map vg++[.slice (some ⟨w.heap.size,0,none⟩) (T+1) (T+1)])) (hat:gv.ownBlock=some g\/g=w.heap.size+2):
 au (w1.setCell ⟨sb,2,none⟩ (.slice (some ⟨g,0,none⟩) (m+1) cap)) base
  (bT sb T N mf (m+1) nv fv (.slice (some ⟨g,0,none⟩) (m+1) cap) vf (fun n=>if n=m then .slice (some ⟨w.heap.size,0,none⟩) (T+1) (T+1) else vg n) Nu Fi (Fo++[List.replicate (T+1) false])):=by
 have h1:=((h.make (.g m) (T+1) hb hT).alloc o).drew
 have h2:=h1.turn (i:= .gh) (r:=⟨gv,81,1,m,(List.range m).map vg⟩) (r':=⟨.slice (some ⟨g,0,none⟩) (m+1) cap,81,1,m+1,(List.range m).map vg++[.slice (some ⟨w.heap.size,0,none⟩) (T+1) (T+1)]⟩)
  (by rw[qR _ (by simp)];rfl) hg hown (fun k hk=>by
   simp only[Value.ownBlock,Option.some.injEq]at hk;subst hk
   simpa using hat)
 have h3:=h2.store (i:= .st) (g:=sb) (n:=1) (cap:=1) (e:=84) (size:=3) (xs:=[nv,fv,gv]) (by rw[qR _ (by simp),qR _ (by simp)];rfl) 2 (.slice (some ⟨g,0,none⟩) (m+1) cap)
 have e:upd (upd (upd (bT sb T N mf m nv fv gv vf vg Nu Fi Fo) (.g m) ⟨.slice (some ⟨w.heap.size,0,none⟩) (T+1) (T+1),4,1,T+1,(List.replicate (T+1) false).map Value.bool⟩) .gh
  ⟨.slice (some ⟨g,0,none⟩) (m+1) cap,81,1,m+1,(List.range m).map vg++[.slice (some ⟨w.heap.size,0,none⟩) (T+1) (T+1)]⟩) .st ⟨.slice (some ⟨sb,0,none⟩) 1 1,84,3,1,[nv,fv,gv].set 2 (.slice (some ⟨g,0,none⟩) (m+1) cap)⟩=
  bT sb T N mf (m+1) nv fv (.slice (some ⟨g,0,none⟩) (m+1) cap) vf (fun n=>if n=m then .slice (some ⟨w.heap.size,0,none⟩) (T+1) (T+1) else vg n) Nu Fi (Fo++[List.replicate (T+1) false]):=by
  funext x
  cases x with
  |st=>simp[upd,bT]
  |null=>simp[upd,bT]
  |fh=>simp[upd,bT]
  |f n=>simp[upd,bT]
  |gh=>
   simp only[upd,bT];simp only[reduceCtorEq,if_false,if_true]
   congr 2
   rw[List.range_succ,List.map_append]
   congr 1
   ·refine List.map_congr_left fun a ha=> ?_
    have:=List.mem_range.1 ha;rw[if_neg (by omega)]
   ·simp
  |g n=>
   simp only[upd,bT,reduceCtorEq,if_false,Ix.g.injEq];by_cases hn:n=m
   ·subst hn
    simp[List.getD,hF]
   ·by_cases hlt:n<m
    ·rw[if_neg hn,if_pos hlt,if_pos (by omega),if_neg hn]
     simp[List.getD,List.getElem?_append_left (show n<Fo.length by omega)]
    ·rw[if_neg hn,if_neg hlt,if_neg (by omega)]
 rwa [e]at h3
end
theorem Tryz.infoBools:(Tryz.prog.info? 81).map (fun i=>(i.zero,i.size,i.bytes))=some (some (.slice none 0 0),1,24):=by kernel_rfl
def SR(W:World)(B sb T N mf mg:Nat)(Nu:List Bool)(Fi Fo:List (List Bool))(wr:World):Prop:=
 Below B W wr/\B<=wr.heap.size/\Fi.length=mf/\Fo.length=mg/\∃nv fv gv vf vg,au wr B (bT sb T N mf mg nv fv gv vf vg Nu Fi Fo)
theorem Yr(w:World)(T N:Nat)(hN:N<=maxLen)(o1 o2:Obj):
 SR ((w.alloc o1).alloc o2) (w.heap.size+2) (w.heap.size+1+1+1) T N 0 0 (List.replicate N false) [] []
  ((((w.alloc o1).alloc o2).alloc (.cells (madeCells #[.bool false] N) 4)).alloc (.cells #[.slice (some ⟨w.heap.size+1+1,0,none⟩) N N,.slice none 0 0,.slice none 0 0] 84)):=by
 refine⟨((Below.refl _ _).alloc (by simp) _).alloc (by simp) _,by simp,rfl,rfl,.slice (some ⟨w.heap.size+1+1,0,none⟩) N N,.slice none 0 0,.slice none 0 0,fun _=> .nilIface,fun _=> .nilIface,?_⟩;have h0:au ((w.alloc o1).alloc o2) (w.heap.size+2) (fun _:Ix=>none):=⟨fun i r h=>(by cases h),fun i j a b _ h=>(by cases h)⟩;have h1:=h0.make .null N (by simp) hN
 have h2:=h1.new .st (r:=⟨.slice (some ⟨w.heap.size+1+1+1,0,none⟩) 1 1,84,3,1,[.slice (some ⟨w.heap.size+1+1,0,none⟩) N N,.slice none 0 0,.slice none 0 0]⟩)
  (World.grownBy_alloc _ (.cells #[.slice (some ⟨w.heap.size+1+1,0,none⟩) N N,.slice none 0 0,.slice none 0 0] 84) none)
  (by
    have:=World.ownsRow_lit (base:=w.heap.size+2) (e:=84) (size:=3) (((w.alloc o1).alloc o2).alloc (.cells (madeCells #[.bool false] N) 4)) #[.slice (some ⟨w.heap.size+1+1,0,none⟩) N N,.slice none 0 0,.slice none 0 0] 1 (by simp) (by unfold maxLen;omega) rfl
    simpa using this)
  (fun g hg=>by simpa [Value.ownBlock] using hg.symm)
 refine⟨fun i r hi=> ?_,fun i j a b hij ha hb g h3 h4=> ?_⟩
 ·cases i with
  |st=>cases hi;exact h2.own .st _ (upd_same _ _ _)
  |null=>cases hi;have:=h2.own .null _ (by rw[qR _ (by simp)];exact upd_same _ _ _);simpa using this
  |fh=>cases hi;exact World.ownsRow_nil _ _ _ _
  |gh=>cases hi;exact World.ownsRow_nil _ _ _ _
  |f n=>simp[bT]at hi
  |g n=>simp[bT]at hi
 ·cases i with
  |f n=>simp[bT]at ha
  |g n=>simp[bT]at ha
  |fh=>cases ha;simp[Value.ownBlock]at h3
  |gh=>cases ha;simp[Value.ownBlock]at h3
  |st=>
   cases j with
   |f n=>simp[bT]at hb
   |g n=>simp[bT]at hb
   |fh=>cases hb;simp[Value.ownBlock]at h4
   |gh=>cases hb;simp[Value.ownBlock]at h4
   |st=>exact hij rfl
   |null=>cases ha;cases hb;simp only[Value.ownBlock,Option.some.injEq]at h3 h4;omega
  |null=>
   cases j with
   |f n=>simp[bT]at hb
   |g n=>simp[bT]at hb
   |fh=>cases hb;simp[Value.ownBlock]at h4
   |gh=>cases hb;simp[Value.ownBlock]at h4
   |null=>exact hij rfl
   |st=>cases ha;cases hb;simp only[Value.ownBlock,Option.some.injEq]at h3 h4;omega
theorem Qj{W wr w1:World}{B sb j:Nat}{o1 o2:Obj}{row:Option Nat}{v:Value}(hB:Below B W wr)(hle:B<=wr.heap.size)(hg:((wr.alloc o1).alloc o2).drew.grownBy w1 row)(hr:∀k,row=some k->B<=k)(hsb:B<=sb):
 Below B W (w1.setCell ⟨sb,j,none⟩ v)/\B<=(w1.setCell ⟨sb,j,none⟩ v).heap.size:=by
 have h1:Below B W ((wr.alloc o1).alloc o2).drew:=((hB.alloc hle o1).alloc (by simp;omega) o2).drew;have hs:=hg.size
 have h2:B<=((wr.alloc o1).alloc o2).drew.heap.size:=by
  have:((wr.alloc o1).alloc o2).drew.heap.size=wr.heap.size+1+1:=by
   show ((wr.alloc o1).alloc o2).heap.size=_;simp
  omega
 exact⟨(h1.grown hg h2 hr).setCell hsb v,by simp;omega⟩
def Gs(R:List Ru)(i:Nat)(Nu:List Bool):List Bool:=if wI Nu (R.getD i (0,[])).2 then Nu.set (R.getD i (0,[])).1.toNat true else Nu
def dO(R:List Ru)(N:Nat):List Bool:=bO (N+1) (fun _=>bO R.length (Gs R)) (List.replicate N false)
def Df(R:List Ru)(Nu:List Bool)(i t:Nat)(Fi:List (List Bool)):List (List Bool):=if wJ Nu Fi t (R.getD i (0,[])).2 then set2 Fi (R.getD i (0,[])).1.toNat t else Fi
def jg(R:List Ru)(Nu:List Bool)(T N:Nat):List (List Bool):=bO (N+1) (fun _=>bO R.length fun i=>bO T fun t=>Df R Nu i t) (List.replicate N (List.replicate T false))
def KE(R:List Ru)(Nu:List Bool)(Fi:List (List Bool))(T i k t:Nat)(Fo:List (List Bool)):List (List Bool):=
 if (decide (t<T)&&wJ Nu Fi t ((R.getD i (0,[])).2.drop (k+1)))||(wI Nu ((R.getD i (0,[])).2.drop (k+1))&&(Fo.getD (R.getD i (0,[])).1.toNat []).getD t false) then
  set2 Fo ((R.getD i (0,[])).2.getD k (false,0)).2.toNat t
 else Fo
def Dg(R:List Ru)(Nu:List Bool)(Fi:List (List Bool))(T i k:Nat)(Fo:List (List Bool)):List (List Bool):=
 if ((R.getD i (0,[])).2.getD k (false,0)).1 then Fo else bO (T+1) (fun t=>KE R Nu Fi T i k t) Fo
def Gt(R:List Ru)(Nu:List Bool)(Fi:List (List Bool))(T N:Nat):List (List Bool):=
 bO (N+1) (fun _=>bO R.length fun i=>bO (R.getD i (0,[])).2.length fun k=>Dg R Nu Fi T i k) (set2 (List.replicate N (List.replicate (T+1) false)) 0 T)
section
variable{w:World}{base sb T N mf mg:Nat}{nv fv gv:Value}{vf vg:Nat->Value}{Nu:List Bool}{Fi Fo:List (List Bool)}
theorem Yt{w:World}{base n:Nat}{v:Value}{X:List Bool}{e:TypeId}(h:w.ownsRow base e 1 v n (X.map Value.bool)):qQ w v X:=by
 have hl:X.length=n:=by simpa using h.1
 obtain⟨a,c,hv⟩:=aY h;refine⟨⟨a,c,by rw[hv,hl]⟩,fun i hi=> ?_⟩;obtain⟨g,cap,rfl,_,_⟩:=h.form (by omega);refine⟨g,0,cap,by rw[hl],?_⟩;have:=h.cellAt i (by omega);rw[Nat.zero_add,this];simp[List.getD,hi]
end
def KR(W:World)(B sb T N:Nat)(nv fv gv:Value)(vf vg:Nat->Value)(Nu:List Bool)(Fi:List (List Bool))(rk l:Nat)(sv:Value)(Fo:List (List Bool))(wq:World):Prop:=
 Below B W wq/\B<=wq.heap.size/\Fo.length=N/\au wq B (bT sb T N N N nv fv gv vf vg Nu Fi Fo)/\wq.cell? ⟨rk,0,none⟩=some (.int .i64 l)/\wq.cell? ⟨rk,1,none⟩=some sv
theorem KR.below{W wq wx:World}{B sb T N:Nat}{nv fv gv:Value}{vf vg:Nat->Value}{Nu:List Bool}{Fi Fo:List (List Bool)}{rk l:Nat}{sv:Value}(h:KR W B sb T N nv fv gv vf vg Nu Fi rk l sv Fo wq)(hC:Below wq.heap.size wq wx):
 KR W B sb T N nv fv gv vf vg Nu Fi rk l sv Fo wx:=by
 obtain⟨h1,h2,h3,h4,h5,h6⟩:=h;have:=hC.size;exact⟨h1.trans (hC.mono h2),by omega,h3,h4.below hC (Nat.le_refl _),(hC.cell (World.block_lt_of_cell? wq _ h5)).trans h5,(hC.cell (World.block_lt_of_cell? wq _ h6)).trans h6⟩
end Go.Proofs.YtpkmpkphfflpjaaGreat
namespace Go.Proofs.YtpkmpkphfflpjaaGreat
def mh(X:List Bool)(n:Int):Prop:=0<=n/\X.getD n.toNat false=true
def eO(F:List (List Bool))(t:Nat)(n:Int):Prop:=0<=n/\(F.getD n.toNat []).getD t false=true
theorem Dh{X:List Bool}{l:Nat}(hl:l<X.length){n:Int}:mh (X.set l true) n↔n=(l:Int)\/mh X n:=by
 unfold mh;constructor
 ·rintro ⟨h0,h1⟩
  by_cases e:n.toNat=l
  ·exact .inl (by omega)
  ·right
   refine⟨h0,?_⟩;rw[<-h1];simp[List.getD,List.getElem?_set_ne (fun h=>e h.symm)]
 ·rintro (rfl|⟨h0,h1⟩)
  ·exact⟨by omega,by simp[List.getD,hl]⟩
  ·refine⟨h0,?_⟩
   by_cases e:n.toNat=l
   ·subst e;simp[List.getD,hl]
   ·rw[<-h1];simp[List.getD,List.getElem?_set_ne (fun h=>e h.symm)]
theorem vB{F:List (List Bool)}{l t:Nat}(hl:l<F.length)(ht:t<(F.getD l []).length){u:Nat}{n:Int}:eO (set2 F l t) u n↔(n=(l:Int)/\u=t)\/eO F u n:=by
 unfold eO;rw[Dc];by_cases e:n.toNat=l
 ·rw[if_pos ⟨e,hl⟩]
  by_cases eu:u=t
  ·subst eu
   constructor
   ·rintro ⟨h0,_⟩;exact .inl ⟨by omega,rfl⟩
   ·intro h
    have h0:0<=n:=by rcases h with⟨rfl,_⟩|⟨h,_⟩<;>omega
    exact⟨h0,by generalize F.getD l []=X at ht;simp[List.getD,ht]⟩
  ·have:((F.getD l []).set t true).getD u false=(F.getD l []).getD u false:=by generalize F.getD l []=X;simp[List.getD,List.getElem?_set_ne (fun h=>eu h.symm)]
   rw[this,e];constructor
   ·intro h;exact .inr h
   ·rintro (⟨_,h⟩|h)
    ·exact absurd h eu
    ·exact h
 ·rw[if_neg (fun h=>e h.1)]
  constructor
  ·intro h;exact .inr h
  ·rintro (⟨rfl,_⟩|h)
   ·exact absurd (by omega) e
   ·exact h
theorem Av{X:List Bool}{l:List Sy}(h:∀s∈l,s.1=false->0<=s.2):wI X l=true↔kR (mh X) l:=by
 unfold wI kR mh;rw[List.all_eq_true];constructor
 ·intro hh s hs
  have:=hh s hs;simp only[Bool.and_eq_true,Bool.not_eq_true']at this;exact⟨this.1,h s hs this.1,this.2⟩
 ·intro hh s hs
  obtain⟨h1,_,h2⟩:=hh s hs;rw[h1,h2];rfl
theorem Gv{X:List Bool}{F:List (List Bool)}{t:Nat}{l:List Sy}(h:∀s∈l,s.1=false->0<=s.2):wJ X F t l=true↔jG (mh X) (eO F t) t l:=by
 unfold wJ jG;rw[List.any_eq_true];constructor
 ·rintro ⟨i,hi,hh⟩
  have hil:i<l.length:=List.mem_range.1 hi;simp only[Bool.and_eq_true]at hh;have e:l.getD i (false,0)=l[i]:=by simp[List.getD,hil]
  rw[e]at hh;refine⟨i,l[i],by simp[hil],?_,(Av fun s hs=>h s (List.mem_of_mem_take hs)).1 hh.1⟩;have Di:=hh.2;unfold Ki at Di;cases hb:(l[i]).1 with
  |true=>rw[hb]at Di;exact .inl ⟨rfl,by simpa using Di⟩
  |false=>rw[hb]at Di;exact .inr ⟨rfl,h _ (List.getElem_mem hil) hb,by simpa using Di⟩
 ·rintro ⟨i,s,hs,hh,hn⟩
  have hil:i<l.length:=(List.getElem?_eq_some_iff.1 hs).1;have e:l.getD i (false,0)=s:=by simp[List.getD,hs]
  refine⟨i,List.mem_range.2 hil,?_⟩;rw[(Av fun s hs=>h s (List.mem_of_mem_take hs)).2 hn,e];unfold Ki;rcases hh with⟨h1,h2⟩|⟨h1,_,h2⟩
  ·simp[h1,h2]
  ·simp[h1];simpa [List.getD] using h2
section
variable{T N:Nat}{R:List Ru}(hf:cO T N R)
include hf
theorem wR{i:Nat}(hi:i<R.length):R.getD i (0,[])∈R:=by
 have _:=hf.some;simp[List.getD,hi]
theorem Dj{i:Nat}(hi:i<R.length):∀s∈(R.getD i (0,[])).2,s.1=false->0<=s.2:=fun s hs h=>(hf.name _ (wR hf hi) s hs h).1
theorem KF:(dO R N).length=N/\∀n,mh (dO R N) n↔dS N R n:=by
 have hm:=KD hf
 have main:=oN (n:=N+1) (f:=fun _=>bO R.length (Gs R)) (x:=List.replicate N false)
  (fun k X=>X.length=N/\(∀n,mh X n->dS N R n)/\∀n,Lv (yJ R) k n->mh X n)
  ⟨by simp,fun n hn=>by
    unfold mh at hn;have:=hn.2;by_cases h:n.toNat<N
    ·simp[List.getD,h]at this
    ·simp[List.getD,List.getElem?_eq_none (show (List.replicate N false).length<=n.toNat by simp;omega)]at this,fun n hn=>hn.elim⟩
  (fun k _ X ⟨h1,h2,h3⟩=>by
    have inner:=oN (n:=R.length) (f:=Gs R) (x:=X)
     (fun i Y=>Y.length=N/\(∀n,mh Y n->dS N R n)/\(∀n,Lv (yJ R) k n->mh Y n)/\∀j,j<i->kR (Lv (yJ R) k) (R.getD j (0,[])).2->mh Y (R.getD j (0,[])).1)
     ⟨h1,h2,h3,fun j hj=>absurd hj (Nat.not_lt_zero _)⟩
     (fun i hi Y ⟨y1,y2,y3,y4⟩=>by
       have hL:=hf.left _ (wR hf hi);have hl:(R.getD i (0,[])).1.toNat<Y.length:=by omega
       have hcast:(((R.getD i (0,[])).1.toNat:Nat):Int)=(R.getD i (0,[])).1:=by omega
       unfold Gs;cases hb:wI Y (R.getD i (0,[])).2 with
       |true=>
        simp only[if_true];have hall:=(Av (Dj hf hi)).1 hb;refine⟨by simp[y1],fun n hn=> ?_,fun n hn=>(Dh hl).2 (.inr (y3 n hn)),fun j hj ha=> ?_⟩
        ·rcases(Dh hl).1 hn with rfl|hn
         ·rw[hcast]
          exact jo hm _ ⟨_,wR hf hi,rfl,hall.mono y2⟩
         ·exact y2 n hn
        ·rcases Nat.lt_succ_iff_lt_or_eq.1 hj with hj|rfl
         ·exact(Dh hl).2 (.inr (y4 j hj ha))
         ·exact(Dh hl).2 (.inl hcast.symm)
       |false=>
        simp only[Bool.false_eq_true,if_false];refine⟨y1,y2,y3,fun j hj ha=> ?_⟩;rcases Nat.lt_succ_iff_lt_or_eq.1 hj with hj|rfl
        ·exact y4 j hj ha
        ·rw[(Av (Dj hf hi)).2 (ha.mono y3)]at hb;cases hb)
    obtain⟨z1,z2,_,z4⟩:=inner;refine⟨z1,z2,fun n hn=> ?_⟩;obtain⟨r,hr,rfl,ha⟩:=hn;obtain⟨j,hj,rfl⟩:=List.getElem_of_mem hr;have e:R.getD j (0,[])=R[j]:=by simp[List.getD,hj]
    have:=z4 j hj (by rw[e];exact ha)
    rwa [e]at this)
 obtain⟨m1,m2,m3⟩:=main;exact⟨m1,fun n=>⟨m2 n,fun hn=>m3 n (CZ hm N n hn)⟩⟩
def Shape(N w:Nat)(F:List (List Bool)):Prop:=F.length=N/\∀n,n<N->(F.getD n []).length=w
omit hf in
theorem Shape.set2{N w:Nat}{F:List (List Bool)}(h:Shape N w F)(l t:Nat):Shape N w (set2 F l t):=by
 refine⟨by rw[Yn];exact h.1,fun n hn=> ?_⟩;rw[Dc];split
 ·rename_i e
  rw[List.length_set,<-e.1];exact h.2 n hn
 ·exact h.2 n hn
omit hf in
theorem Shape.replicate(N w:Nat):Shape N w (List.replicate N (List.replicate w false)):=by
 refine⟨by simp,fun n hn=> ?_⟩;simp[List.getD,hn]
omit hf in
theorem Qk{N w t:Nat}{n:Int}:¬eO (List.replicate N (List.replicate w false)) t n:=by
 rintro ⟨_,h⟩;by_cases h1:n.toNat<N
 ·by_cases h2:t<w
  ·simp[List.getD,h1,h2]at h
  ·simp[List.getD,h1,h2]at h
 ·simp[List.getD,h1]at h
theorem KG{Nu:List Bool}(KH:∀n,mh Nu n↔dS N R n):Shape N T (jg R Nu T N)/\∀t,t<T->∀n,eO (jg R Nu T N) t n↔iy N R t n:=by
 have hNe:mh Nu=dS N R:=funext fun n=>propext (KH n);have hm:=fun t:Int=>Gq hf (dS N R) t
 have main:=oN (n:=N+1) (f:=fun _=>bO R.length fun i=>bO T fun t=>Df R Nu i t) (x:=List.replicate N (List.replicate T false))
  (fun k X=>Shape N T X/\(∀t,t<T->∀n,eO X t n->iy N R t n)/\∀t,t<T->∀n,Lv (wP R (dS N R) t) k n->eO X t n)
  ⟨Shape.replicate N T,fun t _ n hn=>absurd hn Qk,fun t _ n hn=>hn.elim⟩
  (fun k _ X ⟨h1,h2,h3⟩=>by
    have inner:=oN (n:=R.length) (f:=fun i=>bO T fun t=>Df R Nu i t) (x:=X)
     (fun i Y=>Shape N T Y/\(∀t,t<T->∀n,eO Y t n->iy N R t n)/\(∀t,t<T->∀n,Lv (wP R (dS N R) t) k n->eO Y t n)/\
       ∀j,j<i->∀t,t<T->jG (dS N R) (Lv (wP R (dS N R) t) k) t (R.getD j (0,[])).2->eO Y t (R.getD j (0,[])).1)
     ⟨h1,h2,h3,fun j hj=>absurd hj (Nat.not_lt_zero _)⟩
     (fun i hi Y ⟨y1,y2,y3,y4⟩=>by
       have hL:=hf.left _ (wR hf hi);have hcast:(((R.getD i (0,[])).1.toNat:Nat):Int)=(R.getD i (0,[])).1:=by omega
       have deep:=oN (n:=T) (f:=fun t=>Df R Nu i t) (x:=Y)
        (fun u Z=>Shape N T Z/\(∀t,t<T->∀n,eO Z t n->iy N R t n)/\(∀t n,eO Y t n->eO Z t n)/\
          ∀t,t<u->t<T->jG (dS N R) (Lv (wP R (dS N R) t) k) t (R.getD i (0,[])).2->eO Z t (R.getD i (0,[])).1)
        ⟨y1,y2,fun _ _ h=>h,fun t ht=>absurd ht (Nat.not_lt_zero _)⟩
        (fun u hu Z ⟨z1,z2,z3,z4⟩=>by
          have hl:(R.getD i (0,[])).1.toNat<Z.length:=by rw[z1.1];omega
          have hw:u<(Z.getD (R.getD i (0,[])).1.toNat []).length:=by rw[z1.2 _ (by omega)];exact hu
          unfold Df;cases hb:wJ Nu Z u (R.getD i (0,[])).2 with
          |true=>
           simp only[if_true];have vC:=(Gv (Dj hf hi)).1 hb;rw[hNe]at vC;refine⟨z1.set2 _ _,fun t ht n hn=> ?_,fun t n hn=>(vB hl hw).2 (.inr (z3 t n hn)),fun t ht qb ha=> ?_⟩
           ·rcases(vB hl hw).1 hn with⟨rfl,rfl⟩|hn
            ·rw[hcast]
             exact jo (hm t) _ ⟨_,wR hf hi,rfl,vC.mono (z2 t ht)⟩
            ·exact z2 t ht n hn
           ·rcases Nat.lt_succ_iff_lt_or_eq.1 ht with ht|rfl
            ·exact(vB hl hw).2 (.inr (z4 t ht qb ha))
            ·exact(vB hl hw).2 (.inl ⟨hcast.symm,rfl⟩)
          |false=>
           simp only[Bool.false_eq_true,if_false];refine⟨z1,z2,z3,fun t ht qb ha=> ?_⟩;rcases Nat.lt_succ_iff_lt_or_eq.1 ht with ht|rfl
           ·exact z4 t ht qb ha
           ·have:wJ Nu Z t (R.getD i (0,[])).2=true:=(Gv (Dj hf hi)).2 (by rw[hNe];exact ha.mono fun n hn=>z3 t n (y3 t qb n hn))
            rw[this]at hb;cases hb)
       obtain⟨d1,d2,d3,d4⟩:=deep;refine⟨d1,d2,fun t ht n hn=>d3 t n (y3 t ht n hn),fun j hj t ht ha=> ?_⟩;rcases Nat.lt_succ_iff_lt_or_eq.1 hj with hj|rfl
       ·exact d3 t _ (y4 j hj t ht ha)
       ·exact d4 t ht ht ha)
    obtain⟨z1,z2,_,z4⟩:=inner;refine⟨z1,z2,fun t ht n hn=> ?_⟩;obtain⟨r,hr,rfl,ha⟩:=hn;obtain⟨j,hj,rfl⟩:=List.getElem_of_mem hr;have e:R.getD j (0,[])=R[j]:=by simp[List.getD,hj]
    have:=z4 j hj t ht (by rw[e];exact ha)
    rwa [e]at this)
 obtain⟨m1,m2,m3⟩:=main;exact⟨m1,fun t ht n=>⟨m2 t ht n,fun hn=>m3 t ht n (CZ (hm t) N n hn)⟩⟩
theorem Yu{Nu:List Bool}{Fi:List (List Bool)}(KH:∀n,mh Nu n↔dS N R n)(Aw:∀t,t<T->∀n,eO Fi t n↔iy N R t n):
 Shape N (T+1) (Gt R Nu Fi T N)/\∀t,t<T+1->∀n,eO (Gt R Nu Fi T N) t n↔oW T N R t n:=by
 have hNe:mh Nu=dS N R:=funext fun n=>propext (KH n);have Ql:∀t,t<T->eO Fi t=iy N R t:=fun t ht=>funext fun n=>propext (Aw t ht n);have hm:=fun t:Int=>C9 hf (dS N R) (iy N R) t;have Yv:=hf.some;have s0:Shape N (T+1) (set2 (List.replicate N (List.replicate (T+1) false)) 0 T):=(Shape.replicate N (T+1)).set2 0 T
 have h00:∀{u:Nat} {n:Int},eO (set2 (List.replicate N (List.replicate (T+1) false)) 0 T) u n↔n=0/\u=T:=by
  intro u n;rw[vB (by simp;omega) (by rw[(Shape.replicate N (T+1)).2 0 (by omega)];omega)];constructor
  ·rintro (⟨h1,h2⟩|h)
   ·exact⟨by simpa using h1,h2⟩
   ·exact absurd h Qk
  ·rintro ⟨h1,h2⟩;exact .inl ⟨by simpa using h1,h2⟩
 have main:=oN (n:=N+1) (f:=fun _=>bO R.length fun i=>bO (R.getD i (0,[])).2.length fun k=>Dg R Nu Fi T i k) (x:=set2 (List.replicate N (List.replicate (T+1) false)) 0 T)
  (fun m X=>Shape N (T+1) X/\(∀t,t<T+1->∀n,eO X t n->oW T N R t n)/\(∀t,t<T+1->∀n,Lv (vz R (dS N R) (iy N R) T t) m n->eO X t n)/\eO X T 0)
  ⟨s0,fun t _ n hn=>by
    obtain⟨rfl,rfl⟩:=h00.1 hn
    exact jo (hm t) 0 (.inl ⟨rfl,rfl⟩),fun t _ n hn=>hn.elim,h00.2 ⟨rfl,rfl⟩⟩
  (fun m _ X ⟨h1,h2,h3,h4⟩=>by
    have inner:=oN (n:=R.length) (f:=fun i=>bO (R.getD i (0,[])).2.length fun k=>Dg R Nu Fi T i k) (x:=X)
     (fun i Y=>Shape N (T+1) Y/\(∀t,t<T+1->∀n,eO Y t n->oW T N R t n)/\(∀t n,eO X t n->eO Y t n)/\
       ∀j,j<i->∀k n,(R.getD j (0,[])).2[k]?=some (false,n)->∀t,t<T+1->
        (((t:Int)<T/\jG (dS N R) (iy N R t) t ((R.getD j (0,[])).2.drop (k+1)))\/(kR (dS N R) ((R.getD j (0,[])).2.drop (k+1))/\Lv (vz R (dS N R) (iy N R) T t) m (R.getD j (0,[])).1))->eO Y t n)
     ⟨h1,h2,fun _ _ h=>h,fun j hj=>absurd hj (Nat.not_lt_zero _)⟩
     (fun i hi Y ⟨y1,y2,y3,y4⟩=>by
       have hL:=hf.left _ (wR hf hi);have Gw:(((R.getD i (0,[])).1.toNat:Nat):Int)=(R.getD i (0,[])).1:=by omega
       have mid:=oN (n:=(R.getD i (0,[])).2.length) (f:=fun k=>Dg R Nu Fi T i k) (x:=Y)
        (fun q Z=>Shape N (T+1) Z/\(∀t,t<T+1->∀n,eO Z t n->oW T N R t n)/\(∀t n,eO Y t n->eO Z t n)/\
          ∀k,k<q->∀n,(R.getD i (0,[])).2[k]?=some (false,n)->∀t,t<T+1->
           (((t:Int)<T/\jG (dS N R) (iy N R t) t ((R.getD i (0,[])).2.drop (k+1)))\/(kR (dS N R) ((R.getD i (0,[])).2.drop (k+1))/\Lv (vz R (dS N R) (iy N R) T t) m (R.getD i (0,[])).1))->eO Z t n)
        ⟨y1,y2,fun _ _ h=>h,fun k hk=>absurd hk (Nat.not_lt_zero _)⟩
        (fun q hq Z ⟨z1,z2,z3,z4⟩=>by
          obtain⟨⟨tb,v⟩,hs⟩:∃s,(R.getD i (0,[])).2[q]?=some s:=⟨(R.getD i (0,[])).2[q],by simp⟩;have hgs:(R.getD i (0,[])).2.getD q (false,0)=(tb,v):=by generalize (R.getD i (0,[])).2=l at*;simp[List.getD,hs]
          unfold Dg;rw[hgs];cases tb with
          |true=>
           simp only[if_true];refine⟨z1,z2,z3,fun k hk n hn=> ?_⟩;rcases Nat.lt_succ_iff_lt_or_eq.1 hk with hk|rfl
           ·exact z4 k hk n hn
           ·rw[hs]at hn;cases hn
          |false=>
           simp only[Bool.false_eq_true,if_false];have hmem:(false,v)∈(R.getD i (0,[])).2:=List.mem_of_getElem? hs;have hv:=hf.name _ (wR hf hi) _ hmem rfl;simp only at hv;have hcv:((v.toNat:Nat):Int)=v:=by omega
           have hpos:∀s∈(R.getD i (0,[])).2.drop (q+1),s.1=false->0<=s.2:=fun s hs'=>Dj hf hi s (List.mem_of_mem_drop hs')
           have deep:=oN (n:=T+1) (f:=fun t=>KE R Nu Fi T i q t) (x:=Z)
            (fun u V=>Shape N (T+1) V/\(∀t,t<T+1->∀n,eO V t n->oW T N R t n)/\(∀t n,eO Z t n->eO V t n)/\
              ∀t,t<u->t<T+1->(((t:Int)<T/\jG (dS N R) (iy N R t) t ((R.getD i (0,[])).2.drop (q+1)))\/(kR (dS N R) ((R.getD i (0,[])).2.drop (q+1))/\Lv (vz R (dS N R) (iy N R) T t) m (R.getD i (0,[])).1))->eO V t v)
            ⟨z1,z2,fun _ _ h=>h,fun t ht=>absurd ht (Nat.not_lt_zero _)⟩
            (fun u hu V ⟨v1,v2,v3,v4⟩=>by
              have hl:v.toNat<V.length:=by rw[v1.1];omega
              have hw:u<(V.getD v.toNat []).length:=by rw[v1.2 _ (by omega)];exact hu
              unfold KE;rw[hgs];cases hb:((decide (u<T)&&wJ Nu Fi u ((R.getD i (0,[])).2.drop (q+1)))||(wI Nu ((R.getD i (0,[])).2.drop (q+1))&&(V.getD (R.getD i (0,[])).1.toNat []).getD u false)) with
              |true=>
               simp only[if_true]
               have Yw:vz R (dS N R) (iy N R) T u (oW T N R u) v:=by
                refine .inr ⟨_,wR hf hi,q,hs,?_⟩;simp only[Bool.or_eq_true,Bool.and_eq_true,decide_eq_true_eq]at hb;rcases hb with⟨b1,b2⟩|⟨b1,b2⟩
                ·have:=(Gv hpos).1 b2
                 rw[hNe,Ql u b1]at this;exact .inl ⟨by omega,this⟩
                ·have:=(Av hpos).1 b1
                 rw[hNe]at this;exact .inr ⟨this,v2 u hu _ ⟨hL.1,b2⟩⟩
               refine⟨v1.set2 _ _,fun t ht n hn=> ?_,fun t n hn=>(vB hl hw).2 (.inr (v3 t n hn)),fun t ht qb ha=> ?_⟩
               ·rcases(vB hl hw).1 hn with⟨rfl,rfl⟩|hn
                ·rw[hcv]
                 exact jo (hm t) _ Yw
                ·exact v2 t ht n hn
               ·rcases Nat.lt_succ_iff_lt_or_eq.1 ht with ht|rfl
                ·exact(vB hl hw).2 (.inr (v4 t ht qb ha))
                ·exact(vB hl hw).2 (.inl ⟨hcv.symm,rfl⟩)
              |false=>
               simp only[Bool.false_eq_true,if_false];refine⟨v1,v2,v3,fun t ht qb ha=> ?_⟩;rcases Nat.lt_succ_iff_lt_or_eq.1 ht with ht|rfl
               ·exact v4 t ht qb ha
               ·exfalso
                simp only[Bool.or_eq_false_iff]at hb;rcases ha with⟨a1,a2⟩|⟨a1,a2⟩
                ·have ht':t<T:=by omega
                 have:wJ Nu Fi t ((R.getD i (0,[])).2.drop (q+1))=true:=(Gv hpos).2 (by rw[hNe,Ql t ht'];exact a2);rw[this]at hb;simp[ht']at hb
                ·have hn1:wI Nu ((R.getD i (0,[])).2.drop (q+1))=true:=(Av hpos).2 (by rw[hNe];exact a1)
                 have hn2:=(v3 t _ (z3 t _ (y3 t _ (h3 t qb _ a2)))).2;rw[hn1,hn2]at hb
                 simp at hb)
           obtain⟨d1,d2,d3,d4⟩:=deep;refine⟨d1,d2,fun t n hn=>d3 t n (z3 t n hn),fun k hk n hn t ht ha=> ?_⟩;rcases Nat.lt_succ_iff_lt_or_eq.1 hk with hk|rfl
           ·exact d3 t n (z4 k hk n hn t ht ha)
           ·rw[hs]at hn
            cases hn
            exact d4 t ht ht ha)
       obtain⟨z1,z2,z3,z4⟩:=mid;refine⟨z1,z2,fun t n hn=>z3 t n (y3 t n hn),fun j hj k n hn t ht ha=> ?_⟩;rcases Nat.lt_succ_iff_lt_or_eq.1 hj with hj|rfl
       ·exact z3 t n (y4 j hj k n hn t ht ha)
       ·exact z4 k (List.getElem?_eq_some_iff.1 hn).1 n hn t ht ha)
    obtain⟨z1,z2,z3,z4⟩:=inner;refine⟨z1,z2,fun t ht n hn=> ?_,z3 _ _ h4⟩;rcases hn with⟨rfl,hT⟩|⟨r,hr,k,hk,ha⟩
    ·obtain rfl:t=T:=by omega
     exact z3 _ _ h4
    ·obtain⟨j,hj,rfl⟩:=List.getElem_of_mem hr
     have e:R.getD j (0,[])=R[j]:=by simp[List.getD,hj]
     exact z4 j hj k n (by rw[e];exact hk) t ht (by rw[e];exact ha))
 obtain⟨m1,m2,m3,_⟩:=main;exact⟨m1,fun t ht n=>⟨m2 t ht n,fun hn=>m3 t ht n (CZ (hm t) N n hn)⟩⟩
end
end Go.Proofs.YtpkmpkphfflpjaaGreat
namespace Go.Proofs.YtpkmpkphfflpjaaGreat
open Go.RowKit
end Go.Proofs.YtpkmpkphfflpjaaGreat
namespace Go.Proofs.YtpkmpkphfflpjaaGreat
theorem wS{X:List Bool}{l:Nat}(hl:l<X.length){n:Int}:hasB (X.set l true) n↔n=(l:Int)\/hasB X n:=Dh hl
theorem Qm{N:Nat}{n:Int}(hn:hasB (List.replicate N false) n):False:=by
 have:=hn.2;by_cases h:n.toNat<N
 ·simp[List.getD,h]at this
 ·simp[List.getD,List.getElem?_eq_none (show (List.replicate N false).length<=n.toNat by simp;omega)]at this
section
variable{T N:Nat}{R:List Ru}(hf:cO T N R)
include hf
theorem Gy{i:Nat}(hi:i<R.length):∀s∈(R.getD i (0,[])).2,s.1=false->0<=s.2:=fun s hs h=>(hf.name _ (jV hi) s hs h).1
theorem Gz:(oO R N).length=N/\∀n,hasB (oO R N) n↔eH N R n:=by
 have hm:=Gr hf
 have main:=oN (n:=N) (f:=fun _=>bO R.length (F4 R)) (x:=List.replicate N false)
  (fun k X=>X.length=N/\(∀n,hasB X n->eH N R n)/\∀n,Lv (yK R) k n->hasB X n)
  ⟨by simp,fun n hn=>(Qm hn).elim,fun n hn=>hn.elim⟩
  (fun k _ X ⟨h1,h2,h3⟩=>by
    have inner:=oN (n:=R.length) (f:=F4 R) (x:=X)
     (fun i Y=>Y.length=N/\(∀n,hasB Y n->eH N R n)/\(∀n,Lv (yK R) k n->hasB Y n)/\∀j,j<i->nY (Lv (yK R) k) (R.getD j (0,[])).2->hasB Y (R.getD j (0,[])).1)
     ⟨h1,h2,h3,fun j hj=>absurd hj (Nat.not_lt_zero _)⟩
     (fun i hi Y ⟨y1,y2,y3,y4⟩=>by
       have hL:=hf.left _ (jV hi);have hl:(R.getD i (0,[])).1.toNat<Y.length:=by omega
       have hcast:=rW hL.1;unfold F4;cases hb:dR Y (R.getD i (0,[])).2 with
       |true=>
        simp only[if_true];have hall:=(wQ (Gy hf hi)).1 hb;refine⟨by simp[y1],fun n hn=> ?_,fun n hn=>(wS hl).2 (.inr (y3 n hn)),fun j hj ha=> ?_⟩
        ·rcases(wS hl).1 hn with rfl|hn
         ·rw[hcast]
          exact jo hm _ ⟨_,jV hi,rfl,hall.mono y2⟩
         ·exact y2 n hn
        ·rcases Nat.lt_succ_iff_lt_or_eq.1 hj with hj|rfl
         ·exact(wS hl).2 (.inr (y4 j hj ha))
         ·exact(wS hl).2 (.inl hcast.symm)
       |false=>
        simp only[Bool.false_eq_true,if_false];refine⟨y1,y2,y3,fun j hj ha=> ?_⟩;rcases Nat.lt_succ_iff_lt_or_eq.1 hj with hj|rfl
        ·exact y4 j hj ha
        ·rw[(wQ (Gy hf hi)).2 (ha.mono y3)]at hb;cases hb)
    obtain⟨z1,z2,_,z4⟩:=inner;refine⟨z1,z2,fun n hn=> ?_⟩;obtain⟨r,hr,rfl,ha⟩:=hn;obtain⟨j,hj,rfl⟩:=Db hr
    exact z4 j hj ha)
 obtain⟨m1,m2,m3⟩:=main;exact⟨m1,fun n=>⟨m2 n,fun hn=>m3 n hn⟩⟩
theorem KI:(CK R N).length=N/\∀n,hasB (CK R N) n↔lK N R n:=by
 obtain⟨ml,mi⟩:=Gz hf;have hN:=hf.some;have hm:=Au hf (eH N R)
 have h0:hasB ((List.replicate N false).set 0 ((oO R N).getD 0 false)) 0↔eH N R 0:=by
  rw[<-mi 0];unfold hasB;have:0<N:=by omega
  simp[List.getD,this]
 have main:=oN (n:=N) (f:=fun _=>bO R.length (F5 R (oO R N))) (x:=(List.replicate N false).set 0 ((oO R N).getD 0 false))
  (fun k X=>X.length=N/\(∀n,hasB X n->lK N R n)/\(eH N R 0->hasB X 0)/\∀n,Lv (Da R (eH N R)) k n->hasB X n)
  ⟨by simp,fun n hn=>by
    by_cases h:n=0
    ·subst h;exact jo hm _ (.inl ⟨rfl,h0.1 hn⟩)
    ·refine(Qm (N:=N) (n:=n) ⟨hn.1,?_⟩).elim
     have hn2:=hn.2;have hne:0≠n.toNat:=by have:=hn.1;omega
     simpa [List.getD,List.getElem?_set_ne hne] using hn2,h0.2,fun n hn=>hn.elim⟩
  (fun k _ X ⟨h1,h2,hz,h3⟩=>by
    have inner:=oN (n:=R.length) (f:=F5 R (oO R N)) (x:=X)
     (fun i Y=>Y.length=N/\(∀n,hasB Y n->lK N R n)/\(∀n,hasB X n->hasB Y n)/\∀j,j<i->nY (eH N R) (R.getD j (0,[])).2->hasB X (R.getD j (0,[])).1->∀n:Int,(false,n)∈(R.getD j (0,[])).2->hasB Y n)
     ⟨h1,h2,fun _ h=>h,fun j hj=>absurd hj (Nat.not_lt_zero _)⟩
     (fun i hi Y ⟨y1,y2,y3,y4⟩=>by
       have hr:=jV hi;have hL:=hf.left _ hr;have hcast:=rW hL.1;unfold F5;cases hb:(Y.getD (R.getD i (0,[])).1.toNat false&&dR (oO R N) (R.getD i (0,[])).2) with
       |true=>
        simp only[if_true];simp only[Bool.and_eq_true]at hb;have hc:lK N R (R.getD i (0,[])).1:=y2 _ ⟨hL.1,hb.1⟩;have hall:nY (eH N R) (R.getD i (0,[])).2:=((wQ (Gy hf hi)).1 hb.2).mono fun n hn=>(mi n).1 hn
        have names:=oN (n:=(R.getD i (0,[])).2.length) (f:=Km (R.getD i (0,[])).2) (x:=Y)
         (fun k Q=>Q.length=N/\(∀n,hasB Q n->lK N R n)/\(∀n,hasB Y n->hasB Q n)/\∀j,j<k->((R.getD i (0,[])).2.getD j (false,0)).1=false->hasB Q ((R.getD i (0,[])).2.getD j (false,0)).2)
         ⟨y1,y2,fun _ h=>h,fun j hj=>absurd hj (Nat.not_lt_zero _)⟩
         (fun k hk Q ⟨q1,q2,q3,q4⟩=>by
           have hmem:(R.getD i (0,[])).2.getD k (false,0)∈(R.getD i (0,[])).2:=by
            generalize (R.getD i (0,[])).2=l at hk;simp[List.getD,hk]
           unfold Km;obtain⟨⟨x,v⟩,hx⟩:∃x,(R.getD i (0,[])).2.getD k (false,0)=x:=⟨_,rfl⟩;rw[hx]at hmem⊢;cases x with
           |true=>
            simp only[if_true];refine⟨q1,q2,q3,fun j hj Dk=> ?_⟩;rcases Nat.lt_succ_iff_lt_or_eq.1 hj with hj|rfl
            ·exact q4 j hj Dk
            ·rw[hx]at Dk;cases Dk
           |false=>
            simp only[Bool.false_eq_true,if_false];have hv:=hf.name _ hr _ hmem rfl;simp only at hv;have hl:v.toNat<Q.length:=by omega
            refine⟨by simp[q1],fun n hn=> ?_,fun n hn=>(wS hl).2 (.inr (q3 n hn)),fun j hj Dk=> ?_⟩
            ·rcases(wS hl).1 hn with rfl|hn
             ·rw[rW hv.1]
              exact jo hm _ (.inr ⟨_,hr,hmem,hall,hc⟩)
             ·exact q2 n hn
            ·rcases Nat.lt_succ_iff_lt_or_eq.1 hj with hj|rfl
             ·exact(wS hl).2 (.inr (q4 j hj Dk))
             ·rw[hx];exact(wS hl).2 (.inl (rW hv.1).symm))
        obtain⟨z1,z2,z3,z4⟩:=names;refine⟨z1,z2,fun n hn=>z3 n (y3 n hn),fun j hj ha hx n hmem=> ?_⟩;rcases Nat.lt_succ_iff_lt_or_eq.1 hj with hj|rfl
        ·exact z3 n (y4 j hj ha hx n hmem)
        ·obtain⟨q,hq,he⟩:=List.getElem_of_mem hmem
         have e:(R.getD j (0,[])).2.getD q (false,0)=(false,n):=by
          generalize (R.getD j (0,[])).2=l at hq he;simp[List.getD,hq,he]
         have:=z4 q hq (by rw[e])
         rwa [e]at this
       |false=>
        simp only[Bool.false_eq_true,if_false];refine⟨y1,y2,y3,fun j hj ha hx n hmem=> ?_⟩;rcases Nat.lt_succ_iff_lt_or_eq.1 hj with hj|rfl
        ·exact y4 j hj ha hx n hmem
        ·rw[(y3 _ hx).2,(wQ (Gy hf hi)).2 (ha.mono fun n hn=>(mi n).2 hn)]at hb
         cases hb)
    obtain⟨z1,z2,z3,z4⟩:=inner;refine⟨z1,z2,fun h=>z3 0 (hz h),fun n hn=> ?_⟩;rcases hn with⟨rfl,hM⟩|⟨r,hr,hmem,ha,hc⟩
    ·exact z3 0 (hz hM)
    ·obtain⟨j,hj,rfl⟩:=Db hr
     exact z4 j hj ha (h3 _ hc) n hmem)
 obtain⟨m1,m2,_,m3⟩:=main;exact⟨m1,fun n=>⟨m2 n,fun hn=>m3 n hn⟩⟩
end
end Go.Proofs.YtpkmpkphfflpjaaGreat
