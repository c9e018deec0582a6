import Derived.Test.YthbifaoaiggooaaGreatDoorq12
set_option maxHeartbeats 6400000
set_option maxRecDepth 100000
namespace Go.Proofs.YthbifaoaiggooaaGreatDoor
open Go.RowKit
def qI{ι κ:Type}(kf:ι->Option κ)(P:ι->Option Row)(Q:κ->Option Row)(i:ι):Option Row:=match kf i with|some j=>Q j|none=>P i
theorem aA.join{ι κ:Type}{w w':World}{B:Nat}{P:ι->Option Row}{Q:κ->Option Row}(h:aA w B P)(hb:Below w.heap.size w w')(hQ:aA w' w.heap.size Q)(hB:B<=w.heap.size)(kf:ι->Option κ)(inj:∀i i' j,kf i=some j->kf i'=some j->i=i'):
 aA w' B (qI kf P Q):=by
 have hP:=h.below hb (ah _);refine⟨λi r hr=> ?_,λi i' a b hne ha hb' g h1 h2=> ?_⟩
 ·cases hk:kf i with
  |some j=>simp only[qI,hk]at hr;exact lq (hQ.own j r hr) hB
  |none=>simp only[qI,hk]at hr;exact hP.own i r hr
 ·cases hk:kf i with
  |some j=>
   simp only[qI,hk]at ha;cases hk':kf i' with
   |some j'=>
    simp only[qI,hk']at hb';exact hQ.apart j j' a b (λe=>hne (inj i i' j hk (by rw[e];exact hk'))) ha hb' g h1 h2
   |none=>
    simp only[qI,hk']at hb';have:=(hQ.lt ha h1).1;have:=(h.lt hb' h2).2;omega
  |none=>
   simp only[qI,hk]at ha;cases hk':kf i' with
   |some j'=>
    simp only[qI,hk']at hb';have:=(hQ.lt hb' h2).1;have:=(h.lt ha h1).2;omega
   |none=>
    simp only[qI,hk']at hb';exact h.apart i i' a b hne ha hb' g h1 h2
inductive Tz where
 |cs
 |gs
 |cell (k:Nat) (i:PN)
 |gr (k:Nat)
 deriving DecidableEq
structure jw where
 cv:Value
 gv:Value
 cg:Nat->Nat
 vr:Nat->Nat->Value
 gg:Nat->Nat
def PZ(M N:Nat)(f:Nat->Nat->Ce)(g:Nat->List Int)(t:jw)(K1 Kc K2 Kg:Nat):Tz->Option Row
 | .cs=>some ⟨t.cv,115,1,K1,(List.range K1).map λk=> .slice (some ⟨t.cg k,0,none⟩) M M⟩
 | .gs=>some ⟨t.gv,39,1,K2,(List.range K2).map λk=> .slice (some ⟨t.gg k,0,none⟩) N N⟩
 | .cell k i=>if k<Kc then cB (t.cg k) (t.vr k) (f k) M i else none
 | .gr k=>if k<Kg then some ⟨.slice (some ⟨t.gg k,0,none⟩) N N,3,1,N,(g k).map (Value.int .i64)⟩ else none
section
variable{w w':World}{B M N:Nat}{f:Nat->Nat->Ce}{g:Nat->List Int}{t:jw}{K1 Kc K2 Kg:Nat}
def jw.vV(t:jw)(k:Nat)(cg:Nat)(vr:Nat->Value):jw:={ t with cg:=fA t.cg k cg,vr:=fA t.vr k vr }
def jw.xR(t:jw)(k:Nat)(gg:Nat):jw:={ t with gg:=fA t.gg k gg }
theorem Xq{K:Nat}{h:Nat->Nat}{x:Nat}{F:Nat->Value}:((List.range K).map λk=>F (fA h K x k))=(List.range K).map λk=>F (h k):=yH λk hk=>by
 have:=jC.1 hk;simp[fA,show k≠K by omega]
def Ip(K:Nat):Tz->Option PN
 | .cell k i=>if k=K then some i else none
 |_=>none
def Iq(K:Nat):Tz->Option Unit
 | .gr k=>if k=K then some () else none
 |_=>none
theorem ae4(h:aA w B (PZ M N f g t K1 K1 K2 Kg))(hb:Below w.heap.size w w')(hB:B<=w.heap.size){cg:Nat}{vr:Nat->Value}(hQ:aA w' w.heap.size (cB cg vr (f K1) M)):aA w' B (PZ M N f g (t.vV K1 cg vr) K1 (K1+1) K2 Kg):=by
 have:=h.join hb hQ hB (Ip K1) (λi i' j h1 h2=>by
  cases i<;>cases i'<;>simp[Ip]at h1 h2;rename_i k1 i1 k2 i2;obtain⟨rfl,rfl⟩:=h1;obtain⟨rfl,rfl⟩:=h2
  rfl)
 have e:qI (Ip K1) (PZ M N f g t K1 K1 K2 Kg) (cB cg vr (f K1) M)=PZ M N f g (t.vV K1 cg vr) K1 (K1+1) K2 Kg:=by
  funext i
  cases i with
  |cs=>simp only[qI,Ip,PZ,jw.vV];rw[Xq (F:=λx=> .slice (some ⟨x,0,none⟩) M M)]
  |gs=>rfl
  |gr k=>rfl
  |cell k i=>
   simp only[qI,Ip,PZ,jw.vV];by_cases hk:k=K1
   ·subst hk;simp[fA]
   ·rw[aj hk]
    simp only[fA,aj hk];by_cases h2:k<K1
    ·rw[au h2,au (by omega)]
    ·rw[aj h2,aj (by omega)]
 rwa [e]at this
theorem ae5(h:aA w B (PZ M N f g t K1 Kc K2 K2))(hb:Below w.heap.size w w')(hB:B<=w.heap.size){gg:Nat}(hQ:fO w' w.heap.size gg N (g K2)):aA w' B (PZ M N f g (t.xR K2 gg) K1 Kc K2 (K2+1)):=by
 have hQ':aA w' w.heap.size (λ_:Unit=>some ⟨.slice (some ⟨gg,0,none⟩) N N,3,1,N,(g K2).map (Value.int .i64)⟩):=
  ⟨λi r hr=>by simp only[bM]at hr;subst hr;exact hQ,λi j a b hij=>absurd rfl hij⟩
 have:=h.join hb hQ' hB (Iq K2) (λi i' j h1 h2=>by
  cases i<;>cases i'<;>simp[Iq]at h1 h2
  rw[h1,h2])
 have e:qI (Iq K2) (PZ M N f g t K1 Kc K2 K2) (λ_:Unit=>some ⟨.slice (some ⟨gg,0,none⟩) N N,3,1,N,(g K2).map (Value.int .i64)⟩)=PZ M N f g (t.xR K2 gg) K1 Kc K2 (K2+1):=by
  funext i
  cases i with
  |cs=>rfl
  |gs=>simp only[qI,Iq,PZ,jw.xR];rw[Xq (F:=λx=> .slice (some ⟨x,0,none⟩) N N)]
  |cell k i=>rfl
  |gr k=>
   simp only[qI,Iq,PZ,jw.xR];by_cases hk:k=K2
   ·subst hk;simp[fA]
   ·rw[aj hk]
    simp only[fA,aj hk];by_cases h2:k<K2
    ·rw[au h2,au (by omega)]
    ·rw[aj h2,aj (by omega)]
 rwa [e]at this
theorem ae6(h:aA w B (PZ M N f g t K1 Kc K2 Kg)){nv:Value}(hg:w.grownBy w' t.cv.ownBlock)(ho:w'.ownsRow B 115 1 nv (K1+1) (((List.range K1).map λk=> .slice (some ⟨t.cg k,0,none⟩) M M)++[.slice (some ⟨t.cg K1,0,none⟩) M M]))(hat:∀g,nv.ownBlock=some g->t.cv.ownBlock=some g\/g=w.heap.size):aA w' B (PZ M N f g { t with cv:=nv } (K1+1) Kc K2 Kg):=by
 have h1:=h.turn (i:= .cs) (r':=⟨nv,115,1,K1+1,((List.range K1).map λk=> .slice (some ⟨t.cg k,0,none⟩) M M)++[.slice (some ⟨t.cg K1,0,none⟩) M M]⟩) rfl hg ho hat
 have e:upd (PZ M N f g t K1 Kc K2 Kg) .cs ⟨nv,115,1,K1+1,((List.range K1).map λk=> .slice (some ⟨t.cg k,0,none⟩) M M)++[.slice (some ⟨t.cg K1,0,none⟩) M M]⟩=PZ M N f g { t with cv:=nv } (K1+1) Kc K2 Kg:=by
  funext i
  cases i with
  |cs=>simp only[upd,PZ,bQ];rw[pF,fD];rfl
  |_=>simp[upd,PZ]
 rwa [e]at h1
theorem ae7(h:aA w B (PZ M N f g t K1 Kc K2 Kg)){nv:Value}(hg:w.grownBy w' t.gv.ownBlock)(ho:w'.ownsRow B 39 1 nv (K2+1) (((List.range K2).map λk=> .slice (some ⟨t.gg k,0,none⟩) N N)++[.slice (some ⟨t.gg K2,0,none⟩) N N]))(hat:∀g,nv.ownBlock=some g->t.gv.ownBlock=some g\/g=w.heap.size):aA w' B (PZ M N f g { t with gv:=nv } K1 Kc (K2+1) Kg):=by
 have h1:=h.turn (i:= .gs) (r':=⟨nv,39,1,K2+1,((List.range K2).map λk=> .slice (some ⟨t.gg k,0,none⟩) N N)++[.slice (some ⟨t.gg K2,0,none⟩) N N]⟩) rfl hg ho hat
 have e:upd (PZ M N f g t K1 Kc K2 Kg) .gs ⟨nv,39,1,K2+1,((List.range K2).map λk=> .slice (some ⟨t.gg k,0,none⟩) N N)++[.slice (some ⟨t.gg K2,0,none⟩) N N]⟩=PZ M N f g { t with gv:=nv } K1 Kc (K2+1) Kg:=by
  funext i
  cases i with
  |gs=>simp only[upd,PZ,bQ];rw[pF,fD];rfl
  |_=>simp[upd,PZ]
 rwa [e]at h1
theorem ae8(w:World)(B:Nat){t:jw}(h1:t.cv= .slice none 0 0)(h2:t.gv= .slice none 0 0):aA w B (PZ M N f g t 0 0 0 0):=by
 refine⟨λi r hr=> ?_,λi j a b hij ha hb x h3 h4=> ?_⟩
 ·cases i with
  |cs=>simp only[PZ,bM]at hr;subst hr;rw[h1];exact ji _ _ _ _
  |gs=>simp only[PZ,bM]at hr;subst hr;rw[h2];exact ji _ _ _ _
  |cell k i=>simp[PZ]at hr
  |gr k=>simp[PZ]at hr
 ·cases i with
  |cs=>simp only[PZ,bM]at ha;subst ha;rw[h1]at h3;cases h3
  |gs=>simp only[PZ,bM]at ha;subst ha;rw[h2]at h3;cases h3
  |cell k i=>simp[PZ]at ha
  |gr k=>simp[PZ]at ha
theorem ae9{K:Nat}(h:aA w B (PZ M N f g t K K K K)):TabAt w t.cv t.gv ((List.range K).map λk=>(List.range M).map (f k)) ((List.range K).map g):=by
 refine⟨?_,?_⟩
 ·have hh:w.ownsRow B 115 1 t.cv K ((List.range K).map λk=> .slice (some ⟨t.cg k,0,none⟩) M M):=h.own .cs _ rfl
  obtain⟨a,c,hv⟩:=cO hh;refine⟨⟨a,c,by simpa using hv⟩,λi hi=> ?_⟩;have hi':i<K:=by simpa using hi
  obtain⟨g1,cap,hv2,_,_⟩:=hh.form (by omega);rw[hv2]at hh;have e1:((List.range K).map λk=>(List.range M).map (f k)).getD i []=(List.range M).map (f i):=by simp[List.getD,hi']
  refine⟨g1,0,cap,.slice (some ⟨t.cg i,0,none⟩) M M,by simpa using hv2,by rw[eO,hh.cellAt i (by omega)];simp[hi'],?_⟩;rw[e1];refine⟨⟨some ⟨t.cg i,0,none⟩,M,by simp⟩,λn hn=> ?_⟩;have hn':n<M:=by simpa using hn
  have hP:aA w B (cB (t.cg i) (t.vr i) (f i) M):=⟨λj r hr=>h.own (.cell i j) r (by simp[PZ,hi',hr]),λj j' a b hne ha hb=>h.apart (.cell i j) (.cell i j') a b (λe=>hne (by cases e;rfl)) (by simp[PZ,hi',ha]) (by simp[PZ,hi',hb])⟩;obtain⟨c0,c1,c2,_,_,_⟩:=PO hP hn';have e2:((List.range M).map (f i)).getD n (0,[],false)=f i n:=by simp[List.getD,hn']
  rw[e2];exact⟨t.cg i,0,M,t.vr i n,by simp,by rw[eO];exact c0,by rw[eO];exact c1,Xk (Li hP hn'),by rw[eO];exact c2⟩
 ·have hh:w.ownsRow B 39 1 t.gv K ((List.range K).map λk=> .slice (some ⟨t.gg k,0,none⟩) N N):=h.own .gs _ rfl
  obtain⟨a,c,hv⟩:=cO hh;refine⟨⟨a,c,by simpa using hv⟩,λi hi=> ?_⟩;have hi':i<K:=by simpa using hi
  obtain⟨g1,cap,hv2,_,_⟩:=hh.form (by omega);rw[hv2]at hh;have e1:((List.range K).map g).getD i []=g i:=by simp[List.getD,hi']
  refine⟨g1,0,cap,.slice (some ⟨t.gg i,0,none⟩) N N,by simpa using hv2,by rw[eO,hh.cellAt i (by omega)];simp[hi'],?_⟩;rw[e1];exact Xk (n:=N) (h.own (.gr i) ⟨.slice (some ⟨t.gg i,0,none⟩) N N,3,1,N,(g i).map (Value.int .i64)⟩ (by simp[PZ,hi']))
end
structure oU(w wr:World)(t:jw):Prop where
 c0:wr.cell? ⟨w.heap.size+1,0,none⟩=some t.cv
 c1:wr.cell? ⟨w.heap.size+1,1,none⟩=some t.gv
 cf:∀o,wr.frozen? ⟨w.heap.size+1,o,none⟩=false
 r0:wr.cell? ⟨w.heap.size,0,none⟩=some (.slice none 0 0)
 r1:wr.cell? ⟨w.heap.size,1,none⟩=some (.slice none 0 0)
 rf:∀o,wr.frozen? ⟨w.heap.size,o,none⟩=false
 sz:w.heap.size+2<=wr.heap.size
theorem oU.below{w wr w':World}{t:jw}(h:oU w wr t){B:Nat}(hb:Below B wr w')(hB:w.heap.size+2<=B):oU w w' t:=
 ⟨(hb.cell (by simp only;omega)).trans h.c0,(hb.cell (by simp only;omega)).trans h.c1,λo=>(hb.frozen (by simp only;omega)).trans (h.cf o),(hb.cell (by simp only;omega)).trans h.r0,(hb.cell (by simp only;omega)).trans h.r1,λo=>(hb.frozen (by simp only;omega)).trans (h.rf o),aZ h.sz hb.size⟩
theorem oU.set0{w wr:World}{t:jw}(h:oU w wr t)(x:Value):oU w (wr.setCell ⟨w.heap.size+1,0,none⟩ x) { t with cv:=x }:=
 ⟨Ae _ _ _ h.c0,(BN _ _ _ _ (by simp)).trans h.c1,λo=>(JQ _ _ _ _).trans (h.cf o),(BN _ _ _ _ (by simp)).trans h.r0,(BN _ _ _ _ (by simp)).trans h.r1,λo=>(JQ _ _ _ _).trans (h.rf o),by have:=h.sz;simpa using this⟩
theorem oU.set1{w wr:World}{t:jw}(h:oU w wr t)(x:Value):oU w (wr.setCell ⟨w.heap.size+1,1,none⟩ x) { t with gv:=x }:=
 ⟨(BN _ _ _ _ (by simp)).trans h.c0,Ae _ _ _ h.c1,λo=>(JQ _ _ _ _).trans (h.cf o),(BN _ _ _ _ (by simp)).trans h.r0,(BN _ _ _ _ (by simp)).trans h.r1,λo=>(JQ _ _ _ _).trans (h.rf o),by have:=h.sz;simpa using this⟩
theorem aW.tQ{P:Program}{ops:Array Oper}{S:World->Prop}{K:Act->Prop}{i:Nat}{o:Oper}{l:List Nat}{a:Act}{v:Value}(ho:ops.toList[i]?=some o)(hw:Region.wanted o (yielded ops a.tmps)=true)(hy:∀w,S w->(execOp a.eval o).run P w= .ok (.value v) w)(h:aW P ops S K l (a.put o.dst v)):aW P ops S K (i::l) a:=
 aW.cons (by simpa using ho) hw hy h
theorem fG.tQ{P:Program}{ops:Array Oper}{Q:Exit->Act->World->Prop}{S:World->Prop}{n k:Nat}{o:Oper}{l:List Nat}{a:Act}{w:World}(ho:ops.toList[k]?=some o)(h:∀K:Act->World->Prop,Shut (∀a w,(k<n->S w)->fG P ops Q S n l a w->K a w)->if Region.wanted o (yielded ops a.tmps)=true then Oper.wp P o a w K Q else K (a.put o.dst undef) w):fG P ops Q S n (k::l) a w:=
 fG.cons (by simpa using ho) h
theorem Tryz.infoCeS:(Tryz.prog.info? 115).map (λi=>(i.zero,i.size,i.bytes))=some (some (.slice none 0 0),1,24):=by kernel_rfl
theorem Tryz.infoIntS:(Tryz.prog.info? 39).map (λi=>(i.zero,i.size,i.bytes))=some (some (.slice none 0 0),1,24):=by kernel_rfl
theorem afa{w0 w:World}{d:gL}{v:dK}{G:Wy->Option Value}{ng:Nat}{st:LS}{R:List Ru}{Nu:List Bool}{Fi:List (List Bool)}{Ls:List aV}{ZT ZN:Nat->Nat->Int}(E:kM w0 d R Nu Fi)(h:aB w0 w d v G ng st)(hS:kK R v.OL Ls)(few:v.OL.length<=150)(rP:ng<=10000000)(hc:st.c<=10000000)(hlk:∀s,st.lk s<512)
 (hZ:∀k,k<v.OL.length->∀n,n<=d.T->Says G (k,(true,(n:Int))) (ZT k n)) (Xt:∀k,k<v.OL.length->∀n,n<d.N->Says G (k,(false,(n:Int))) (ZN k n)):
 Calls Tryz.prog 52 #[.pointer (some ⟨d.ma,0,none⟩)] w λe w'=> ∃cv gv,e= .returned (.agg #[cv,gv])/\(∀w'':World,(∀b,w.heap.size<=b->b<w'.heap.size->w''.heap[b]?=w'.heap[b]?)->TabAt w'' cv gv ((List.range v.OL.length).map λk=>(List.range (d.T+1)).map λn=>dG R st.lk k n (v.OL.getD k []) (ZT k n,[],false)) ((List.range v.OL.length).map λk=>(List.range d.N).map (ZN k)))/\Below w.heap.size w w':=by
 obtain⟨M,zA⟩:=af (d.T+1);obtain⟨f,hf⟩:∃f:Nat->Nat->Ce,f=λk n=>dG R st.lk k n (v.OL.getD k []) (ZT k n,[],false):=⟨_,rfl⟩;obtain⟨g,hg⟩:∃g:Nat->List Int,g=λk=>(List.range d.N).map (ZN k):=⟨_,rfl⟩;have Xu:Hid (∀(w':World) (cv gv:Value),TabAt w' cv gv ((List.range v.OL.length).map λk=>(List.range M).map (f k)) ((List.range v.OL.length).map g)->TabAt w' cv gv ((List.range v.OL.length).map λk=>(List.range (d.T+1)).map λn=>dG R st.lk k n (v.OL.getD k []) (ZT k n,[],false)) ((List.range v.OL.length).map λk=>(List.range d.N).map (ZN k))):=λw' cv gv ht=>by rw[zA,<-hg];rw[hf]at ht;exact ht
 have PX:Hid (∀(wx:World) (k:Nat),aB w0 wx d v G ng st->k<v.OL.length->Calls Tryz.prog 92 #[.pointer (some ⟨d.ma,0,none⟩),.int .i64 k] wx λe w'=> ∃cg vr,e= .returned (.slice (some ⟨cg,0,none⟩) M M)/\aA w' wx.heap.size (cB cg vr (f k) M)/\Below wx.heap.size wx w'):=λwx k hx hk=>by
  have:=ae0 E hx hS hk few rP hc hlk (hZ k hk);rw[zA]at this;rw[hf];exact this
 have PY:Hid (∀(wx:World) (k:Nat),aB w0 wx d v G ng st->k<v.OL.length->Calls Tryz.prog 93 #[.pointer (some ⟨d.ma,0,none⟩),.int .i64 k] wx λe w'=> ∃gg,e= .returned (.slice (some ⟨gg,0,none⟩) d.N d.N)/\fO w' wx.heap.size gg d.N (g k)/\Below wx.heap.size wx w'):=λwx k hx hk=>by
  have:=aeR hx E.hN.2 E.hN.1 (by omega) rP (Xt k hk);rw[hg];exact this
 have HM:Hid (aB w0 w d v G ng st):=h;have hM2:=(h.alloc (.cells #[.slice none 0 0,.slice none 0 0] 73)).alloc (.cells #[.slice none 0 0,.slice none 0 0] 73);have c6:=(hM2.cell (i:=6) rfl (by omega)).1;obtain⟨sa,sc,hsv⟩:=h.states;rw[hsv]at c6;have HB0:Hid (Below w.heap.size w ((w.alloc (.cells #[.slice none 0 0,.slice none 0 0] 73)).alloc (.cells #[.slice none 0 0,.slice none 0 0] 73))):=((ai _ _).alloc (ah _) _).alloc (by simp) _
 have HT0:Hid (oU w ((w.alloc (.cells #[.slice none 0 0,.slice none 0 0] 73)).alloc (.cells #[.slice none 0 0,.slice none 0 0] 73)) ⟨.slice none 0 0,.slice none 0 0,λ_=>0,λ_ _=> .slice none 0 0,λ_=>0⟩):=by
  refine⟨?_,?_,λo=> ?_,?_,?_,λo=> ?_,?_⟩<;>simp[go_sem]
 obtain⟨K,hK⟩:=af v.OL.length;rw[hK]at c6 Xu PX PY few;have hKo:=hK;clear E h hS hZ Xt hlk hM2 hsv zA hf hg hK
 go_enter Tryz.func52,Tryz.ntmps52
 go_wp2_with fail
 clear c6;generalize (w.alloc (.cells #[.slice none 0 0,.slice none 0 0] 73)).alloc (.cells #[.slice none 0 0,.slice none 0 0] 73)=W0 at HB0 HT0⊢
 go_loopw [10] (λs10 wr=> ∃(k:Nat) (t:jw),s10= .int .i64 k/\k<=K/\aA wr (w.heap.size+2) (PZ M d.N f g t k k k k)/\oU w wr t/\Below w.heap.size w wr) (λs _=>K-(intOf s).toNat)
 case atStart=>exact⟨0,_,rfl,aP _,ae8 _ _ rfl rfl,HT0.out,HB0.out⟩
 case round=>
  clear HT0 HB0;obtain⟨k,t,rfl,hk,hO,hT,hB⟩:=hrel;have HO:Hid (aA wr (w.heap.size+2) (PZ M d.N f g t k k k k)):=hO;have HT:Hid (oU w wr t):=hT;have HB:Hid (Below w.heap.size w wr):=hB;by_cases hlt:k<K
  ·have EI:=PX.out wr.drew k (HM.out.below hB).drew hlt
   have c0:=hT.c0;obtain⟨ca,cc,hcv⟩:=hO.slice (i:= .cs) rfl;simp only at hcv;rw[hcv]at c0;have EJ:Hid (t.cv= .slice ca k cc):=hcv;obtain⟨i5,hi0,hz0,hz1,hz2⟩:=fK Tryz.infoCeS;have hn1:k+1<=maxLen:=by unfold maxLen;omega
   have hn2:(k+1)*24<=140737488355328:=by omega
   clear hO hT hB hcv
   go_wp2_with fail
   refine JW [0,1,2,3] [4,5,6,7,8] 8 (λw'=>w'.cell? ⟨w.heap.size+1,0,none⟩=some (.slice ca k cc)) (by kernel_rfl) (by kernel_rfl) c0 ?_
   iterate 4
    refine aW.tQ (v:= ?_) rfl (by rfl) ?_ ?_;rotate_left
    ·intro w' hSw
     go_simp
     try with_reducible rfl
    simp only[Act.put,eB,List.set_cons_zero,List.set_cons_succ]
   rw[aW];refine fG.tQ rfl (λK hK=> ?_)
   go_simp
   refine EI.mono ?_;rintro e w5 ⟨cg,vr,rfl,Ir,aD⟩;dsimp only;have oV:=HT.out.below ((ai _ _).drew.trans aD) HT.out.sz;have Bl:=ae4 HO.out.drew (show Below wr.drew.heap.size wr.drew w5 from aD) HT.out.sz Ir;have rR:Below w.heap.size w w5:=HB.out.trans ((show Below wr.heap.size wr w5 from (ai _ _).drew.trans aD).mono (by have:=HT.out.sz;omega));have c5:=oV.c0;rw[EJ.out]at c5;refine hK.out _ _ (λ_=>c5) ?_;clear hK EI Ir aD HO HT HB c0;obtain⟨W6,Iu⟩:∃W,W=w5.alloc (.cells #[.slice (some ⟨cg,0,none⟩) M M] 115):=⟨_,rfl⟩;have zF:=Bl.alloc (.cells #[.slice (some ⟨cg,0,none⟩) M M] 115);have hb6:Below w5.heap.size w5 (w5.alloc (.cells #[.slice (some ⟨cg,0,none⟩) M M] 115)):=(ai _ _).alloc (ah _) _;have jM:=oV.below hb6 oV.sz;have c6:=jM.c0;have f6:=jM.cf 0;have hsz5:=oV.sz;rw[EJ.out]at c6
   have eU:(w5.alloc (.cells #[.slice (some ⟨cg,0,none⟩) M M] 115)).ownsRow (w.heap.size+2) 115 1 (.slice ca k cc) k ((List.range k).map λj=> .slice (some ⟨fA t.cg k cg j,0,none⟩) M M):=by
    have:=zF.own .cs _ rfl;simp only[jw.vV,EJ.out]at this;exact this
   have hne:some (w.heap.size+1)≠(Value.slice ca k cc).ownBlock:=λe1=>by have:=(eU.lt _ e1.symm).1;omega
   have ku:=jh (cs:= #[.slice (some ⟨cg,0,none⟩) M M]) (t:=115) (fr:=(0,0)) (heap_alloc_new w5 (.cells #[.slice (some ⟨cg,0,none⟩) M M] 115));have hs6:(w5.alloc (.cells #[.slice (some ⟨cg,0,none⟩) M M] 115)).heap.size=w5.heap.size+1:=by simp
   have bC:Below w.heap.size w (w5.alloc (.cells #[.slice (some ⟨cg,0,none⟩) M M] 115)):=rR.alloc (by omega) _;refine fG.tQ rfl (λK hK=> ?_)
   go_simp
   rw[<-Iu]at zF hb6 jM c6 f6 eU ku hs6 bC⊢;refine hK.out _ _ (λ_=>c6) ?_;clear hK Bl oV rR c5;refine fG.tQ rfl (λK hK=> ?_);refine wZ _ rfl _ _ _ rfl (w.heap.size+2) 115 i5 _ 1 24 Tryz.underlying70 hi0 hz0 hz1 hz2 rfl (by omega) (.slice ca k cc) k ((List.range k).map λj=> .slice (some ⟨fA t.cg k cg j,0,none⟩) M M) rfl eU ⟨w5.heap.size,0,none⟩ 1 1 [.slice (some ⟨cg,0,none⟩) M M] rfl rfl ku (by simp[Value.oneCell']) (by omega) hn1 hn2 (by omega) (w5.heap.size+1) hs6 ?_;intro g7 nk w7 Cy iF Cz Lp;have c7:=(iF.cell_far ⟨w.heap.size+1,0,none⟩ (by simp;omega) hne).trans c6;have f7:=(iF.frozen_far ⟨w.heap.size+1,0,none⟩ (by simp;omega) hne).trans f6
   have Iw:aA w7 (w.heap.size+2) (PZ M d.N f g { (t.vV k cg vr) with cv:= .slice (some ⟨g7,0,none⟩) (k+1) nk } (k+1) (k+1) k k):=by
    refine ae6 zF ?_ ?_ ?_
    ·simp only[jw.vV,EJ.out];exact iF
    ·simp only[jw.vV]
     have e:(fA t.cg k cg k)=cg:=by simp[fA]
     rw[e];exact Cy
    ·intro g' hg'
     simp only[jw.vV,EJ.out];simp only[Value.ownBlock,bM]at hg';subst hg';rcases Cz with h|h
     ·exact .inl h
     ·exact .inr (by omega)
   have Lr:Hid (aA (w7.setCell ⟨w.heap.size+1,0,none⟩ (.slice (some ⟨g7,0,none⟩) (k+1) nk)) (w.heap.size+2) (PZ M d.N f g { (t.vV k cg vr) with cv:= .slice (some ⟨g7,0,none⟩) (k+1) nk } (k+1) (k+1) k k)):=Iw.xk (a:=⟨w.heap.size+1,0,none⟩) (by simp) _
   have xS:oU w w7 t:=by
    have hne':∀q,q<=w.heap.size+1->some q≠(Value.slice ca k cc).ownBlock:=λq hq e1=>by have:=(eU.lt _ e1.symm).1;omega
    refine⟨?_,?_,λo=> ?_,?_,?_,λo=> ?_,?_⟩
    ·exact(iF.cell_far _ (by simp;omega) (hne' _ (by simp))).trans jM.c0
    ·exact(iF.cell_far _ (by simp;omega) (hne' _ (by simp))).trans jM.c1
    ·exact(iF.frozen_far _ (by simp;omega) (hne' _ (by simp))).trans (jM.cf o)
    ·exact(iF.cell_far _ (by simp;omega) (hne' _ (by simp))).trans jM.r0
    ·exact(iF.cell_far _ (by simp;omega) (hne' _ (by simp))).trans jM.r1
    ·exact(iF.frozen_far _ (by simp;omega) (hne' _ (by simp))).trans (jM.rf o)
    ·exact aZ jM.sz iF.size
   have vW:Hid (oU w (w7.setCell ⟨w.heap.size+1,0,none⟩ (.slice (some ⟨g7,0,none⟩) (k+1) nk)) { t with cv:= .slice (some ⟨g7,0,none⟩) (k+1) nk }):=xS.set0 _;have Gq:Hid (Below w.heap.size w (w7.setCell ⟨w.heap.size+1,0,none⟩ (.slice (some ⟨g7,0,none⟩) (k+1) nk))):=(bC.grown iF (by omega) (λb hb=>by have:=(eU.lt _ hb).1;omega)).setCell (by simp) _;refine hK.out _ _ (λ_=>c7) ?_;clear hK Cy iF Cz Lp xS Iw zF hb6 jM c6 f6 eU ku hs6 bC hne hi0 hz0 hz1 hz2 hn1 hn2 Iu;refine fG.tQ rfl (λK hK=> ?_)
   go_simp
   refine hK.out _ _ (λ_=>c7) ?_;clear hK;refine fG.tQ rfl (λK hK=> ?_)
   go_simp
   refine hK.out _ _ (λh=>absurd h (by omega)) ?_;clear hK;rw[fG];refine NoPanic.normal ?_;generalize (w7.setCell ⟨w.heap.size+1,0,none⟩ (.slice (some ⟨g7,0,none⟩) (k+1) nk))=W8 at Lr vW Gq⊢;clear c7 f7;obtain⟨t8,P5⟩:∃t8:jw,t8={ (t.vV k cg vr) with cv:= .slice (some ⟨g7,0,none⟩) (k+1) nk }:=⟨_,rfl⟩;have HT:Hid (oU w W8 t8):=by rw[P5];exact⟨vW.out.c0,vW.out.c1,vW.out.cf,vW.out.r0,vW.out.r1,vW.out.rf,vW.out.sz⟩
   rw[<-P5]at Lr;have HO:Hid (aA W8 (w.heap.size+2) (PZ M d.N f g t8 (k+1) (k+1) k k)):=Lr.out;have HB:Hid (Below w.heap.size w W8):=Gq.out;have Xv:=PY.out W8.drew k (HM.out.below HB.out).drew hlt;have c0:=HT.out.c1;obtain⟨ga,gc,hgv⟩:=HO.out.slice (i:= .gs) rfl;simp only at hgv;rw[hgv]at c0;have Iz:Hid (t8.gv= .slice ga k gc):=hgv;obtain⟨i5,hi0,hz0,hz1,hz2⟩:=fK Tryz.infoIntS;have hn1:k+1<=maxLen:=by unfold maxLen;omega
   have hn2:(k+1)*24<=140737488355328:=by omega
   clear hgv Lr vW Gq P5 EJ
   go_wp2_with fail
   refine JW [0,1,2,3] [4,5,6,7,8] 8 (λw'=>w'.cell? ⟨w.heap.size+1,1,none⟩=some (.slice ga k gc)) (by kernel_rfl) (by kernel_rfl) c0 ?_
   iterate 4
    refine aW.tQ (v:= ?_) rfl (by rfl) ?_ ?_;rotate_left
    ·intro w' hSw
     go_simp
     try with_reducible rfl
    simp only[Act.put,eB,List.set_cons_zero,List.set_cons_succ]
   rw[aW];refine fG.tQ rfl (λK hK=> ?_)
   go_simp
   refine Xv.mono ?_;rintro e w5 ⟨gg,rfl,Ir,aD⟩;dsimp only;have oV:=HT.out.below ((ai _ _).drew.trans aD) HT.out.sz;have Bl:=ae5 HO.out.drew (show Below W8.drew.heap.size W8.drew w5 from aD) HT.out.sz Ir;have rR:Below w.heap.size w w5:=HB.out.trans ((show Below W8.heap.size W8 w5 from (ai _ _).drew.trans aD).mono (by have:=HT.out.sz;omega));have c5:=oV.c1;rw[Iz.out]at c5;refine hK.out _ _ (λ_=>c5) ?_;clear hK Ir aD HO HT HB c0;obtain⟨W6,Iu⟩:∃W,W=w5.alloc (.cells #[.slice (some ⟨gg,0,none⟩) d.N d.N] 39):=⟨_,rfl⟩;have zF:=Bl.alloc (.cells #[.slice (some ⟨gg,0,none⟩) d.N d.N] 39);have hb6:Below w5.heap.size w5 (w5.alloc (.cells #[.slice (some ⟨gg,0,none⟩) d.N d.N] 39)):=(ai _ _).alloc (ah _) _;have jM:=oV.below hb6 oV.sz;have c6:=jM.c1;have f6:=jM.cf 1;have hsz5:=oV.sz;rw[Iz.out]at c6
   have eU:(w5.alloc (.cells #[.slice (some ⟨gg,0,none⟩) d.N d.N] 39)).ownsRow (w.heap.size+2) 39 1 (.slice ga k gc) k ((List.range k).map λj=> .slice (some ⟨fA t8.gg k gg j,0,none⟩) d.N d.N):=by
    have:=zF.own .gs _ rfl;simp only[jw.xR,Iz.out]at this;exact this
   have hne:some (w.heap.size+1)≠(Value.slice ga k gc).ownBlock:=λe1=>by have:=(eU.lt _ e1.symm).1;omega
   have ku:=jh (cs:= #[.slice (some ⟨gg,0,none⟩) d.N d.N]) (t:=39) (fr:=(0,0)) (heap_alloc_new w5 (.cells #[.slice (some ⟨gg,0,none⟩) d.N d.N] 39));have hs6:(w5.alloc (.cells #[.slice (some ⟨gg,0,none⟩) d.N d.N] 39)).heap.size=w5.heap.size+1:=by simp
   have bC:Below w.heap.size w (w5.alloc (.cells #[.slice (some ⟨gg,0,none⟩) d.N d.N] 39)):=rR.alloc (by omega) _;refine fG.tQ rfl (λK hK=> ?_)
   go_simp
   rw[<-Iu]at zF hb6 jM c6 f6 eU ku hs6 bC⊢;refine hK.out _ _ (λ_=>c6) ?_;clear hK Bl oV rR c5;refine fG.tQ rfl (λK hK=> ?_);refine wZ _ rfl _ _ _ rfl (w.heap.size+2) 39 i5 _ 1 24 Tryz.underlying71 hi0 hz0 hz1 hz2 rfl (by omega) (.slice ga k gc) k ((List.range k).map λj=> .slice (some ⟨fA t8.gg k gg j,0,none⟩) d.N d.N) rfl eU ⟨w5.heap.size,0,none⟩ 1 1 [.slice (some ⟨gg,0,none⟩) d.N d.N] rfl rfl ku (by simp[Value.oneCell']) (by omega) hn1 hn2 (by omega) (w5.heap.size+1) hs6 ?_;intro g7 nk w7 Cy iF Cz Lp;have c7:=(iF.cell_far ⟨w.heap.size+1,1,none⟩ (by simp;omega) hne).trans c6;have f7:=(iF.frozen_far ⟨w.heap.size+1,1,none⟩ (by simp;omega) hne).trans f6
   have Iw:aA w7 (w.heap.size+2) (PZ M d.N f g { (t8.xR k gg) with gv:= .slice (some ⟨g7,0,none⟩) (k+1) nk } (k+1) (k+1) (k+1) (k+1)):=by
    refine ae7 zF ?_ ?_ ?_
    ·simp only[jw.xR,Iz.out];exact iF
    ·simp only[jw.xR]
     have e:(fA t8.gg k gg k)=gg:=by simp[fA]
     rw[e];exact Cy
    ·intro g' hg'
     simp only[jw.xR,Iz.out];simp only[Value.ownBlock,bM]at hg';subst hg';rcases Cz with h|h
     ·exact .inl h
     ·exact .inr (by omega)
   have Xw:Hid (aA (w7.setCell ⟨w.heap.size+1,1,none⟩ (.slice (some ⟨g7,0,none⟩) (k+1) nk)) (w.heap.size+2) (PZ M d.N f g { (t8.xR k gg) with gv:= .slice (some ⟨g7,0,none⟩) (k+1) nk } (k+1) (k+1) (k+1) (k+1))):=Iw.xk (a:=⟨w.heap.size+1,1,none⟩) (by simp) _
   have xS:oU w w7 t8:=by
    have hne':∀q,q<=w.heap.size+1->some q≠(Value.slice ga k gc).ownBlock:=λq hq e1=>by have:=(eU.lt _ e1.symm).1;omega
    refine⟨?_,?_,λo=> ?_,?_,?_,λo=> ?_,?_⟩
    ·exact(iF.cell_far _ (by simp;omega) (hne' _ (by simp))).trans jM.c0
    ·exact(iF.cell_far _ (by simp;omega) (hne' _ (by simp))).trans jM.c1
    ·exact(iF.frozen_far _ (by simp;omega) (hne' _ (by simp))).trans (jM.cf o)
    ·exact(iF.cell_far _ (by simp;omega) (hne' _ (by simp))).trans jM.r0
    ·exact(iF.cell_far _ (by simp;omega) (hne' _ (by simp))).trans jM.r1
    ·exact(iF.frozen_far _ (by simp;omega) (hne' _ (by simp))).trans (jM.rf o)
    ·exact aZ jM.sz iF.size
   have Bn:Hid (oU w (w7.setCell ⟨w.heap.size+1,1,none⟩ (.slice (some ⟨g7,0,none⟩) (k+1) nk)) { t8 with gv:= .slice (some ⟨g7,0,none⟩) (k+1) nk }):=xS.set1 _;have Lu:Hid (Below w.heap.size w (w7.setCell ⟨w.heap.size+1,1,none⟩ (.slice (some ⟨g7,0,none⟩) (k+1) nk))):=(bC.grown iF (by omega) (λb hb=>by have:=(eU.lt _ hb).1;omega)).setCell (by simp) _;refine hK.out _ _ (λ_=>c7) ?_;clear hK Cy iF Cz Lp xS Iw zF hb6 jM c6 f6 eU ku hs6 bC hne hi0 hz0 hz1 hz2 hn1 hn2 Iu;refine fG.tQ rfl (λK hK=> ?_)
   go_simp
   refine hK.out _ _ (λ_=>c7) ?_;clear hK;refine fG.tQ rfl (λK hK=> ?_)
   go_simp
   refine hK.out _ _ (λh=>absurd h (by omega)) ?_;clear hK;rw[fG];refine NoPanic.normal ?_;generalize (w7.setCell ⟨w.heap.size+1,1,none⟩ (.slice (some ⟨g7,0,none⟩) (k+1) nk))=W9 at Xw Bn Lu⊢;clear c7 f7;clear Xv
   go_wp2_with fail
   go_roundw
   case rel=>exact⟨k+1,_,by go_num,by omega,Xw.out,⟨Bn.out.c0,Bn.out.c1,Bn.out.cf,Bn.out.r0,Bn.out.r1,Bn.out.rf,Bn.out.sz⟩,Lu.out⟩
   case measure=>simp[intOf];omega
  ·obtain rfl:K=k:=by omega
   obtain⟨ca,cc,hcv⟩:=hO.slice (i:= .cs) rfl;obtain⟨ga,gc,hgv⟩:=hO.slice (i:= .gs) rfl;simp only at hcv hgv;have c0:=hT.c0;have c1:=hT.c1;rw[hcv]at c0;rw[hgv]at c1;have x0:=hT.r0;have x1:=hT.r1;have xf0:=hT.rf 0;have xf1:=hT.rf 1;have ajf:decide ((K:Int)<(K:Int))=false:=by simp
   have HV:Hid (t.cv= .slice ca K cc/\t.gv= .slice ga K gc):=⟨hcv,hgv⟩;clear hO hT hB hcv hgv PX PY HM
   go_wp2_with fail
   have hP:=(HO.out.xk (a:=⟨w.heap.size,0,none⟩) (by simp) (.slice ca K cc)).xk (a:=⟨w.heap.size,1,none⟩) (by simp) (.slice ga K gc);refine aH (v:= .agg #[.slice ca K cc,.slice ga K gc]) (by simp[results,Tryz.results52,go_sem,x0,x1]) rfl ⟨.slice ca K cc,.slice ga K gc,rfl,?_,(HB.out.setCell (by simp) _).setCell (by simp) _⟩;rw[hKo];intro w'' hw'';have hT':=ae9 (hP.heap (w':=w'') λi r q hr hq=>hw'' q (by have:=(hP.lt hr hq).1;omega) (hP.lt hr hq).2);rw[HV.out.1,HV.out.2]at hT';exact Xu.out _ _ _ hT'
end Go.Proofs.YthbifaoaiggooaaGreatDoor
namespace Go.Proofs.YthbifaoaiggooaaGreatDoor
open Classical
section
variable{T N:Nat}{R:List Ru}{OL:List (List It)}{NL:List (List Int)}{Ls:List aV}{st:LS}
theorem afb{k n:Nat}:∀(L:List It) (z:Int) (a:List Int) (b:Bool),dG R st.lk k n L (z,a,b)=
 (z,a++((L.filter λit=>oQ R st.lk k n it&&decide (it.1≠R.length)).map λit=>(it.1:Int)),b||L.any λit=>oQ R st.lk k n it&&decide (it.1=R.length)):=by
 intro L
 induction L with
 |nil=>intro z a b;simp[dG]
 |cons it L ih=>
  intro z a b;show dG R st.lk k n L (if oQ R st.lk k n it then mr R it.1 (z,a,b) else (z,a,b))=_;by_cases hd:oQ R st.lk k n it=true
  ·rw[au hd]
   unfold mr;by_cases he:it.1=R.length
   ·rw[au he]
    simp only;rw[ih];simp[hd,he]
   ·rw[aj he]
    simp only;rw[ih];simp[hd,he]
  ·have hd':oQ R st.lk k n it=false:=by simpa using hd
   rw[aj hd,ih];simp[hd']
theorem afc(A:lJ T N R OL NL Ls)(hF:∀n,((mU R (iL R N) T N).getD n []).length<=T)(H:Ib T N R OL NL Ls (iL R N) (mU R (iL R N) T N) st){k n:Nat}(hk:k<OL.length){z:Int}(hz:z=if n<T then (NL.getD k []).getD n 0 else -1):
 dG R st.lk k n (OL.getD k []) (z,[],false)=cellP T N R NL Ls k n:=by
 have hin:∀r,AY T N R NL Ls k n r↔(r,(aR R r).length)∈OL.getD k []/\oQ R st.lk k n (r,(aR R r).length)=true:=λr=>by
  unfold AY oQ;rw[(A.rF.lI k hk).mem,<-adJ A hF H.inv H.none H.zero,show (decide ((r,(aR R r).length).2=(aR R (r,(aR R r).length).1).length))=true from aT rfl,wN]
 have hdone:∀it,oQ R st.lk k n it=true->it=(it.1,(aR R it.1).length):=λit h=>by
  unfold oQ at h;simp only[bG,bX]at h;rw[<-h.1]
 rw[afb,hz];unfold cellP;refine Prod.ext rfl (Prod.ext ?_ ?_)
 ·simp only[List.nil_append]
  rw[show ∀L:List It,(L.map λit=>(it.1:Int))=(L.map λit=>it.1).map λn:Nat=>(n:Int) from λL=>by rw[List.map_map];rfl];refine congrArg (List.map λn:Nat=>(n:Int)) ?_;refine VD (lt:=(· < ·)) (λ_ _ _=>Nat.lt_trans) Dx ?_ ?_ λx=> ?_
  ·rw[List.pairwise_map]
   refine List.Pairwise.imp_of_mem ?_ ((A.rF.He k hk).filter _);intro a b ha hb hab;simp only[sD,bG]at ha hb;have h1:=hdone a ha.2.1;have h2:=hdone b hb.2.1;rcases hab with h|⟨h,h'⟩
   ·exact h
   ·rw[h1,h2]at h'
    simp only[h]at h';exact absurd h' (Dx _)
  ·exact(List.pairwise_lt_range).filter _
  ·simp only[jP,sD,bG,bX,jC]
   constructor
   ·rintro ⟨it,⟨h1,h2,h3⟩,rfl⟩
    have:=(A.rF.ok k hk it h1).1;have e:=hdone it h2;refine⟨by omega,(hin _).2 ?_⟩;rw[<-e];exact⟨h1,h2⟩
   ·rintro ⟨h1,h2⟩
    have h3:=(hin x).1 h2;exact⟨_,⟨h3.1,h3.2,by simp only;omega⟩,rfl⟩
 ·simp only[Dq]
  rw[Bool.eq_iff_iff];simp only[List.any_eq_true,bG,bX];constructor
  ·rintro ⟨it,h1,h2,h3⟩
   have e:=hdone it h2;rw[<-h3];refine(hin _).2 ?_;rw[<-e];exact⟨h1,h2⟩
  ·intro h
   have h3:=(hin R.length).1 h;exact⟨_,h3.1,h3.2,rfl⟩
theorem Xx(A:lJ T N R OL NL Ls){k x:Nat}(hk:k<OL.length)(hx:x<T+N):Says (bE T NL) (k,dJ T x) ((NL.getD k []).getD x 0):=by
 obtain⟨hl,hg⟩:=A.go k hk x hx;unfold Says;rw[Ej (by rw[hl];exact hx)];by_cases hex:∃i,Ls.getD k cu i/\kJ T R i x
 ·obtain⟨n,e,_,_⟩:=hg.some hex
  rw[e,au (aF _)];exact .inl rfl
 ·have e:=hg.none hex
  rw[e,aj (by omega)];exact .inr ⟨rfl,rfl⟩
theorem afd(A:lJ T N R OL NL Ls){k n:Nat}(hk:k<OL.length)(hn:n<=T):Says (bE T NL) (k,(true,(n:Int))) (if n<T then (NL.getD k []).getD n 0 else -1):=by
 by_cases h:n<T
 ·rw[au h]
  have:=Xx A hk (x:=n) (by omega);unfold dJ at this;rw[au h]at this;exact this
 ·rw[aj h]
  refine .inr ⟨O3 λx e=> ?_,rfl⟩;unfold dJ at e;split at e
  ·simp only[qx,true_and]at e
   omega
  ·simp at e
theorem afe(A:lJ T N R OL NL Ls){k n:Nat}(hk:k<OL.length)(hn:n<N):Says (bE T NL) (k,(false,(n:Int))) ((NL.getD k []).getD (T+n) 0):=by
 have:=Xx A hk (x:=T+n) (by omega);unfold dJ at this;rw[aj (by omega)]at this;rw[show T+n-T=n by omega]at this;exact this
theorem aff{K:Nat}(hN:0<N)(A:lJ T N R OL (ax T N R K).1 (ax T N R K).2)(hK:OL.length=K)(hF:∀n,((mU R (iL R N) T N).getD n []).length<=T)(H:Ib T N R OL (ax T N R K).1 (ax T N R K).2 (iL R N) (mU R (iL R N) T N) st):
 ((List.range OL.length).map λk=>(List.range (T+1)).map λn=>dG R st.lk k n (OL.getD k []) ((if n<T then ((ax T N R K).1.getD k []).getD n 0 else -1),[],false))=dF T N R K/\
 ((List.range OL.length).map λk=>(List.range N).map λn=>((ax T N R K).1.getD k []).getD (T+n) 0)=jo T N R K:=by
 constructor
 ·unfold dF rowP
  rw[hK];refine yH λk hk=>yH λn _=> ?_;exact afc A hF H (by rw[hK];exact jC.1 hk) rfl
 ·unfold jo
  rw[hK];refine yH λk hk=> ?_;have hk':=jC.1 hk;obtain⟨hl,_⟩:=A.go k (by omega) T (by omega);obtain⟨row,hrow⟩:=af ((ax T N R K).1.getD k []);rw[hrow]at hl⊢;refine wP (by simp[hl]) λi h1 h2=> ?_;have hi:i<N:=by simpa using h1
  have hi2:T+i<row.length:=by omega
  simp[List.getD,hi2]
theorem afg{K:Nat}(hs:kK R OL (ax T N R K).2)(hK:OL.length=K)(h0:jq OL (0,(R.length,0)))(hsy:∀r,r<=R.length->∀s∈aR R r,(s.1=true->0<=s.2/\s.2<(T:Int))/\(s.1=false->0<=s.2/\s.2<(N:Int))):lJ T N R OL (ax T N R K).1 (ax T N R K).2/\Whole T N R K:=by
 have hW:Whole T N R K:=by
  unfold Whole;rw[<-hs.len];exact hK
 refine⟨⟨hs,λk hk x hx=> ?_,λk hk=> ?_,hsy,h0⟩,hW⟩
 ·exact OW (GV hW) k (by omega) x hx
 ·have hl:k<(ax T N R K).2.length:=by rw[<-hs.len];exact hk
  refine Vr (T:=T) (N:=N) K _ ?_;simp[List.getD,hl]
end
end Go.Proofs.YthbifaoaiggooaaGreatDoor
namespace Go.Proofs.YthbifaoaiggooaaGreatDoor
open Go.RowKit
section
variable{ι:Type}[DecidableEq ι]
def jv(gr:ι)(X:ι->List Bool)(i:ι)(m:Nat):ι->List Bool:=if bit X i m then X else bH (bH X i m true) gr 0 true
def Bo(gr i j:ι)(n:Nat)(X:ι->List Bool):ι->List Bool:=bf n (λm Y=>if bit Y j m then jv gr Y i m else Y) X
omit [DecidableEq ι] in
structure Mark(c:eP ι)(gr:ι)(gb:Nat):Prop where
 v:c.V gr= .slice (some ⟨gb,0,none⟩) 1 1
 d:c.dom gr=some 1
variable{c:eP ι}{gr:ι}{gb:Nat}
theorem Lx{w:World}{B n m:Nat}{i:ι}{X:ι->List Bool}(h:Bt w B c X)(hM:Mark c gr gb)(hd:c.dom i=some n)(hm:m<n)(hi:i≠gr):
 Calls Tryz.prog 82 #[c.V i,.int .i64 m,.pointer (some ⟨gb,0,none⟩)] w λe w'=>e= .returned (.tuple #[])/\Bt w' B c (jv gr X i m)/\Kept c.K w w':=by
 obtain⟨g,cap,hv,_,_⟩:=Bt.form h hd (by omega);obtain⟨c1,f1⟩:=Bt.cell h hd hv hm;obtain⟨c2,f2⟩:=Bt.cell (i:=gr) h hM.d hM.v (m:=0) (by omega);have hne:=Bt.apart (i:=i) (j:=gr) h hi hd hM.d hv hM.v;have j0:(0:Int)<=(m:Int):=aF _;have j1:(m:Int)<(n:Int):=by omega
 have HB:Hid (Bt w B c X):=h;have HM:Hid (Mark c gr gb):=hM;have HV:Hid (c.V i= .slice (some ⟨g,0,none⟩) n cap):=hv;rw[hv];clear h hv hM;cases hb:bit X i m with
 |true=>
  rw[hb]at c1;have HP:Hid (jv gr X i m=X):=by show jv gr X i m=X;simp[jv,hb]
  clear hb
  go_enter Tryz.func82,Tryz.ntmps82
  go_wp2_with fail
  go_end0
  exact⟨rfl,by rw[HP.out];exact HB.out,Kept.refl _ _⟩
 |false=>
  rw[hb]at c1;have HP:Hid (jv gr X i m=bH (bH X i m true) gr 0 true):=by show jv gr X i m=_;simp[jv,hb]
  have s1:=Bt.set HB.out hd HV.out m true;obtain⟨c3,f3⟩:=Bt.cell (i:=gr) s1 HM.out.d HM.out.v (m:=0) (by omega);have s2:Hid _:=Bt.set (i:=gr) s1 HM.out.d HM.out.v 0 true;clear hb s1
  go_enter Tryz.func82,Tryz.ntmps82
  go_wp2_with fail
  go_end0
  exact⟨rfl,by rw[HP.out];exact s2.out,((Kept.refl _ _).setCell (eP.Ny (c:=c) hd HV.out) _).setCell (eP.Ny (c:=c) (i:=gr) HM.out.d HM.out.v) _⟩
def Does(c:eP ι)(gb B:Nat)(w0:World)(dn:Nat)(caps:Array Value)(R:List Ru)(f:Ru->(ι->List Bool)->ι->List Bool):Prop:=
 ∀k,k<R.length->∀(w1:World) (Y:ι->List Bool) (qa:Option Addr) (qc:Nat),Kept c.K w0 w1->Bt w1 B c Y->iy w1 B qa (R.getD k (0,[])).2->(R.getD k (0,[])).2.length<=qc->
  Calls Tryz.prog dn (#[.agg #[.int .i64 (R.getD k (0,[])).1,.slice qa (R.getD k (0,[])).2.length qc],.func (.func 82) #[] #[.pointer (some ⟨gb,0,none⟩)]]++caps) w1 λe w'=>
   e= .returned (.tuple #[])/\Bt w' B c (f (R.getD k (0,[])) Y)/\Kept c.K w1 w'
def oW(R:List Ru)(f:Ru->(ι->List Bool)->ι->List Bool)(n:Nat)(X:ι->List Bool):ι->List Bool:=bf n (λq=>f (R.getD q (0,[]))) X
theorem P6{w:World}{B dn:Nat}{caps:Array Value}{rv:Value}{X:ι->List Bool}{R:List Ru}{f:Ru->(ι->List Bool)->ι->List Bool}{Head:(ι->List Bool)->Prop}{nV:(ι->List Bool)->Nat}
 (h:Bt (w.alloc (.cells #[.bool true] 4)) B c X) (hB:B<=w.heap.size) (hM:Mark c gr w.heap.size) (hr:aG (w.alloc (.cells #[.bool true] 4)) B rv R) (BX:R.length<=1000) (hD:Does c w.heap.size B (w.alloc (.cells #[.bool true] 4)) dn caps R f)
 (Xy:∀args w,(callFunc dn args).run Tryz.prog w= .ok (.enter dn args) w) (hA:Head X) (hN:∀Y,Head Y->bit Y gr 0=true->Head (oW R f R.length (bH Y gr 0 false))/\nV (oW R f R.length (bH Y gr 0 false))<nV Y):
 Calls Tryz.prog 44 #[rv,.func (.func dn) #[] caps] w λe w'=>
  e= .returned (.tuple #[])/\∃Y,Head Y/\bit Y gr 0=false/\Bt w' B c Y/\Kept c.K (w.alloc (.cells #[.bool true] 4)) w':=by
 obtain⟨ra,rc,aI⟩:=hr.1;subst aI;have HB:Hid (Bt (w.alloc (.cells #[.bool true] 4)) B c X):=h;have HM:Hid (Mark c gr w.heap.size):=hM;have HR:Hid (aG (w.alloc (.cells #[.bool true] 4)) B (.slice ra R.length rc) R):=hr;have HD:Hid (Does c w.heap.size B (w.alloc (.cells #[.bool true] 4)) dn caps R f):=hD;have HA:Hid (Head X):=hA;have HN:Hid (∀Y,Head Y->bit Y gr 0=true->Head (oW R f R.length (bH Y gr 0 false))/\nV (oW R f R.length (bH Y gr 0 false))<nV Y):=hN;have HEn:Hid (∀args w,(callFunc dn args).run Tryz.prog w= .ok (.enter dn args) w):=Xy;clear h hM hr hD hA hN Xy
 go_enter Tryz.func44,Tryz.ntmps44
 go_wp2_with fail
 go_loopg [] (nV X) (λn wr=> ∃Y,n=nV Y/\Head Y/\Bt wr B c Y/\Kept c.K (w.alloc (.cells #[.bool true] 4)) wr)
 case atStart=>exact⟨X,rfl,HA.out,HB.out,Kept.refl _ _⟩
 case round=>
  obtain⟨Y,hn,IA,hBr,hKr⟩:=hrel;have HN':Hid (gk=nV Y):=hn;have Xz:Hid (Head Y):=IA;have jd:Hid (Bt wr B c Y):=hBr;have oP:Hid (Kept c.K (w.alloc (.cells #[.bool true] 4)) wr):=hKr;have hsz:w.heap.size+1<=wr.heap.size:=by have:=hKr.size;simpa using this
  obtain⟨c1,f1⟩:=Bt.cell (i:=gr) (n:=1) hBr HM.out.d HM.out.v (m:=0) (by omega);clear hn IA hBr hKr;cases hg:bit Y gr 0 with
  |true=>
   rw[hg]at c1;have hnx:=HN.out Y Xz.out hg;have XA:Hid (Head (oW R f R.length (bH Y gr 0 false))/\nV (oW R f R.length (bH Y gr 0 false))<nV Y):=hnx;have hB1:=Bt.set (i:=gr) (n:=1) jd.out HM.out.d HM.out.v 0 false;have hK1:Kept c.K wr (wr.setCell ⟨w.heap.size,0,none⟩ (.bool false)):=(Kept.refl _ _).setCell (eP.Ny (c:=c) (i:=gr) HM.out.d HM.out.v) _;have fQ:Hid (Kept c.K (w.alloc (.cells #[.bool true] 4)) (wr.setCell ⟨w.heap.size,0,none⟩ (.bool false))):=oP.out.trans hK1;have HB1:Hid (Bt (wr.setCell ⟨w.heap.size,0,none⟩ (.bool false)) B c (bH Y gr 0 false)):=hB1;clear hg hnx hB1 hK1;obtain⟨w3,hw3⟩:∃w3,w3=wr:=⟨_,rfl⟩;subst hw3
   go_wp2_with fail
   clear c1 f1
   go_loopw [12] (λs wq=> ∃k:Nat,s= .int .i64 k/\k<=R.length/\Bt wq B c (oW R f k (bH Y gr 0 false))/\Kept c.K (w.alloc (.cells #[.bool true] 4)) wq) (λs _=>R.length-(intOf s).toNat)
   case atStart=>exact⟨0,rfl,aP _,HB1.out,fQ.out⟩
   case round=>
    clear HB1 fQ;obtain⟨k,rfl,hk,pV,LA⟩:=hrel;obtain⟨Z,hZ⟩:=af (oW R f k (bH Y gr 0 false));rw[hZ]at pV;have HZ:Hid (oW R f k (bH Y gr 0 false)=Z):=hZ;have zG:Hid (Bt wr B c Z):=pV;have P7:Hid (Kept c.K (w.alloc (.cells #[.bool true] 4)) wr):=LA;have hsz:w.heap.size+1<=wr.heap.size:=by have:=LA.size;simpa using this
    have EK:=HR.out.below (LA.below (λb hb=>Bt.ge HB.out hb) (by simp;omega));clear hZ pV LA;by_cases hlt:k<R.length
    ·obtain⟨b,o,rc',qa,qc,hv,hb,k1,k2,hqc,k3⟩:=EK.2 k hlt
     cases hv;have hstep:oW R f (k+1) (bH Y gr 0 false)=f (R.getD k (0,[])) Z:=by rw[<-HZ.out];rfl
     have hK1:Kept c.K wr (wr.alloc (.cells #[.int .i64 (R.getD k (0,[])).1,.slice qa (R.getD k (0,[])).2.length qc] 96)):=(Kept.refl _ _).alloc _
     have call:=HD.out k hlt (wr.alloc (.cells #[.int .i64 (R.getD k (0,[])).1,.slice qa (R.getD k (0,[])).2.length qc] 96)) Z qa qc (P7.out.trans hK1) (Bt.alloc zG.out _)
      (iy.below (w:=wr) k3 (hK1.below (λb hb=>Bt.ge HB.out hb) (by omega))) hqc
     have jb:Hid (Kept c.K (w.alloc (.cells #[.bool true] 4)) (wr.alloc (.cells #[.int .i64 (R.getD k (0,[])).1,.slice qa (R.getD k (0,[])).2.length qc] 96))):=P7.out.trans hK1;have HS:Hid (oW R f (k+1) (bH Y gr 0 false)=f (R.getD k (0,[])) Z):=hstep;obtain⟨⟨L,Rt⟩,hre⟩:=af (R.getD k (0,[]));rw[hre]at k1 k2 call jb HS;simp only at k1 k2 call jb;have k2':wr.cell? ⟨b,o+k*2+1,none⟩=some (.slice qa Rt.length qc):=by rw[kF];exact k2
     have j0:(0:Int)<=(k:Int):=aF _;have j1:(k:Int)<(R.length:Int):=by omega
     clear hstep hre k2 k3 hK1 EK hqc
     go_wp2_with fail
     simp only[HEn.out];refine Calls.mono call ?_;rintro e w4 ⟨rfl,hB4,hK4⟩
     go_wp2_with fail
     go_roundw
     case rel=>exact⟨k+1,by go_num,by omega,by rw[HS.out];exact hB4,jb.out.trans hK4⟩
     case measure=>simp[intOf];omega
    ·obtain rfl:k=R.length:=by omega
     clear EK
     go_wp2_with fail
     go_roundg (nV (oW R f R.length (bH Y gr 0 false)))
     case measure=>have:=XA.out.2;rw[HN'.out];exact this
     case rel=>exact⟨_,rfl,XA.out.1,by rw[HZ.out];exact zG.out,P7.out⟩
  |false=>
   rw[hg]at c1;have HG:Hid (bit Y gr 0=false):=hg;clear hg
   go_wp2_with fail
   go_end0
   exact⟨rfl,Y,Xz.out,HG.out,jd.out,oP.out⟩
end
section
variable{ι:Type}[DecidableEq ι]{c:eP ι}{gr:ι}{gb:Nat}
theorem afh{w:World}{B n nj:Nat}{i j:ι}{X:ι->List Bool}(h:Bt w B c X)(hM:Mark c gr gb)(hd:c.dom i=some n)(hdj:c.dom j=some nj)(hle:nj<=n)(hi:i≠gr)(hs:nj<=1000):
 Calls Tryz.prog 84 #[c.V i,c.V j,.func (.func 82) #[] #[.pointer (some ⟨gb,0,none⟩)]] w λe w'=>e= .returned (.tuple #[])/\Bt w' B c (Bo gr i j nj X)/\Kept c.K w w':=by
 obtain⟨ja,jc,P8⟩:=Bt.slice h hdj;obtain⟨ia,ic,xU⟩:=Bt.slice h hd;have HB:Hid (Bt w B c X):=h;have HM:Hid (Mark c gr gb):=hM;have HV:Hid (c.V i= .slice ia n ic):=xU;have HJ:Hid (c.V j= .slice ja nj jc):=P8;rw[xU,P8];clear h xU P8 hM
 go_enter Tryz.func84,Tryz.ntmps84
 go_wp2_with fail
 go_loopw [10] (λs wr=> ∃k:Nat,s= .int .i64 k/\k<=nj/\Bt wr B c (Bo gr i j k X)/\Kept c.K w wr) (λs _=>nj-(intOf s).toNat)
 case atStart=>exact⟨0,rfl,aP _,HB.out,Kept.refl _ _⟩
 case round=>
  obtain⟨k,rfl,hk,hB,hK⟩:=hrel;have xV:Hid (Bt wr B c (Bo gr i j k X)):=hB;have HK:Hid (Kept c.K w wr):=hK;clear hB hK;by_cases hlt:k<nj
  ·obtain⟨g,cap,hv,_,_⟩:=Bt.form xV.out hdj (by omega)
   have hv':=HJ.out;rw[hv]at hv';cases hv';obtain⟨c1,_⟩:=Bt.cell xV.out hdj hv hlt;have j0:(0:Int)<=(k:Int):=aF _;have j1:(k:Int)<(nj:Int):=by omega
   have put:=Lx xV.out HM.out hd (m:=k) (by omega) hi;rw[HV.out]at put;have HE:Hid (Bo gr i j (k+1) X=if bit (Bo gr i j k X) j k then jv gr (Bo gr i j k X) i k else Bo gr i j k X):=rfl;clear hv;cases hb:bit (Bo gr i j k X) j k with
   |true=>
    rw[hb]at c1 HE;clear hb
    go_wp2_with (go_at_call 82;refine put.mono ?_;rintro e w2 ⟨rfl,hB2,hK2⟩)
    go_roundw
    case rel=>exact⟨k+1,by go_num,by omega,by rw[HE.out];exact hB2,HK.out.trans hK2⟩
    case measure=>simp[intOf];omega
   |false=>
    rw[hb]at c1 HE;clear hb put
    go_wp2_with fail
    go_roundw
    case rel=>exact⟨k+1,by go_num,by omega,by rw[HE.out];exact xV.out,HK.out⟩
    case measure=>simp[intOf];omega
  ·obtain rfl:k=nj:=by omega
   go_wp2_with fail
   go_end0
   exact⟨rfl,xV.out,HK.out⟩
end
inductive Iy where
 |null|gr
 |f (n:Nat)
 |g (n:Nat)
 deriving DecidableEq
abbrev Xs:=Iy->List Bool
def kY(X:Xs)(i:Iy)(m:Nat):Xs:=if bit X i m then X else bH (bH X i m true) .gr 0 true
def gQ(i j:Iy)(n:Nat)(X:Xs):Xs:=bf n (λm Y=>if bit Y j m then kY Y i m else Y) X
def bI(T:Nat)(i:Iy):List Sy->Xs->Xs×Bool
 | [],X=>(X,true)
 |s::l,X=>if s.1 then (kY X i s.2.toNat,false) else
  if bit (gQ i (.f s.2.toNat) T X) .null s.2.toNat then bI T i l (gQ i (.f s.2.toNat) T X) else (gQ i (.f s.2.toNat) T X,false)
def bP(T N:Nat):Iy->Option Nat
 | .null=>some N
 | .gr=>some 1
 | .f n=>if n<N then some T else none
 | .g n=>if n<N then some (T+1) else none
def aK(T N:Nat)(nv:Value)(vf vg:Nat->Value)(gb:Nat):eP Iy:=
 ⟨λ| .null=>nv| .gr=> .slice (some ⟨gb,0,none⟩) 1 1| .f n=>vf n| .g n=>vg n,bP T N⟩
def kP(w:World)(K:Nat->Prop)(N:Nat)(fv:Value)(vs:Nat->Value):Prop:=
 (∃a c,fv= .slice a N c)/\∀n,n<N->∃g c,fv= .slice (some ⟨g,0,none⟩) N c/\¬K g/\w.cell? ⟨g,n,none⟩=some (vs n)
theorem kP.kept{w w':World}{K:Nat->Prop}{N:Nat}{fv:Value}{vs:Nat->Value}(h:kP w K N fv vs)(hk:Kept K w w'):kP w' K N fv vs:=
 ⟨h.1,λn hn=>let ⟨g,c,h1,h2,h3⟩:=h.2 n hn;⟨g,c,h1,h2,hk.cell h2 h3⟩⟩
section
variable{T N:Nat}{nv:Value}{vf vg:Nat->Value}{gb:Nat}
theorem P9(T N:Nat)(nv:Value)(vf vg:Nat->Value)(gb:Nat):Mark (aK T N nv vf vg gb) .gr gb:=⟨rfl,rfl⟩
theorem XB{w:World}{B n m:Nat}{i:Iy}{X:Xs}(h:Bt w B (aK T N nv vf vg gb) X)(hd:bP T N i=some n)(hm:m<n)(hi:i≠ .gr):
 Calls Tryz.prog 82 #[(aK T N nv vf vg gb).V i,.int .i64 m,.pointer (some ⟨gb,0,none⟩)] w λe w'=>e= .returned (.tuple #[])/\Bt w' B (aK T N nv vf vg gb) (kY X i m)/\Kept (aK T N nv vf vg gb).K w w':=Lx h (P9 T N nv vf vg gb) hd hm hi
theorem XC{w:World}{B n nj:Nat}{i j:Iy}{X:Xs}(h:Bt w B (aK T N nv vf vg gb) X)(hd:bP T N i=some n)(hdj:bP T N j=some nj)(hle:nj<=n)(hi:i≠ .gr)(hs:nj<=1000):
 Calls Tryz.prog 84 #[(aK T N nv vf vg gb).V i,(aK T N nv vf vg gb).V j,.func (.func 82) #[] #[.pointer (some ⟨gb,0,none⟩)]] w λe w'=>e= .returned (.tuple #[])/\Bt w' B (aK T N nv vf vg gb) (gQ i j nj X)/\Kept (aK T N nv vf vg gb).K w w':=afh h (P9 T N nv vf vg gb) hd hdj hle hi hs
theorem XD{w:World}{B n lc gl gc:Nat}{fv:Value}{la ga:Option Addr}{i:Iy}{X:Xs}{l:List Sy}(h:Bt w B (aK T N nv vf vg gb) X)(hB:B<=w.heap.size)(hd:bP T N i=some n)(Bp:T<=n)(hi:i≠ .gr)
 (hF:kP w (aK T N nv vf vg gb).K N fv vf) (hl:iy w B la l) (hin:∀s∈l,0<=s.2/\s.2<if s.1 then (T:Int) else (N:Int)) (hT:T<=1000) (h8:l.length<=1000):
 Calls Tryz.prog 83 #[.agg #[nv,fv,.slice ga gl gc],(aK T N nv vf vg gb).V i,.slice la l.length lc,.func (.func 82) #[] #[.pointer (some ⟨gb,0,none⟩)]] w λe w'=>
  e= .returned (.bool (bI T i l X).2)/\Bt w' B (aK T N nv vf vg gb) (bI T i l X).1/\Kept (aK T N nv vf vg gb).K w w':=by
 obtain⟨ia,ic,xU⟩:=Bt.slice h hd;obtain⟨na,nc,vX⟩:=Bt.slice (i:=Iy.null) (n:=N) h rfl;have CB:nv= .slice na N nc:=vX;clear vX;obtain⟨fa,fc,tC⟩:=hF.1;subst CB;subst tC;have HB:Hid (Bt w B (aK T N (.slice na N nc) vf vg gb) X):=h;have HV:Hid ((aK T N (.slice na N nc) vf vg gb).V i= .slice ia n ic):=xU;have HF:Hid (kP w (aK T N (.slice na N nc) vf vg gb).K N (.slice fa N fc) vf):=hF;have HL:Hid (iy w B la l):=hl;have HI:Hid (∀s∈l,0<=s.2/\s.2<if s.1 then (T:Int) else (N:Int)):=hin;rw[xU];clear h xU hF hl hin
 go_enter Tryz.func83,Tryz.ntmps83
 go_wp2_with fail
 go_loopw [13] (λs wr=> ∃k:Nat,s= .int .i64 k/\k<=l.length/\∃Y,bI T i l X=bI T i (l.drop k) Y/\Bt wr B (aK T N (.slice na N nc) vf vg gb) Y/\
  Kept (aK T N (.slice na N nc) vf vg gb).K (w.alloc (.cells #[.slice na N nc,.slice fa N fc,.slice ga gl gc] 64)) wr) (λs _=>l.length-(intOf s).toNat)
 case atStart=>exact⟨0,rfl,aP _,X,rfl,Bt.alloc HB.out _,Kept.refl _ _⟩
 case round=>
  obtain⟨k,rfl,hk,Y,hY,hBr,hKr⟩:=hrel;have HY:Hid (bI T i l X=bI T i (l.drop k) Y):=hY;have jd:Hid (Bt wr B (aK T N (.slice na N nc) vf vg gb) Y):=hBr;have oP:Hid (Kept (aK T N (.slice na N nc) vf vg gb).K (w.alloc (.cells #[.slice na N nc,.slice fa N fc,.slice ga gl gc] 64)) wr):=hKr;have rT:Hid (Kept (aK T N (.slice na N nc) vf vg gb).K w wr):=((Kept.refl _ _).alloc _).trans hKr;have hsz:w.heap.size+1<=wr.heap.size:=by have:=hKr.size;simpa using this
  have b0:wr.cell? ⟨w.heap.size,0,none⟩=some (.slice na N nc):=hKr.cell (Bt.jD HB.out (ah _)) (by simp[go_sem]);have b1:wr.cell? ⟨w.heap.size,1,none⟩=some (.slice fa N fc):=hKr.cell (Bt.jD HB.out (ah _)) (by simp[go_sem]);have Bq:Hid (Below B w wr):=rT.out.below (λb hb=>Bt.ge HB.out hb) hB;clear hY hBr hKr;by_cases hlt:k<l.length
  ·obtain⟨b',o',sS,hb',k3,k4⟩:=HL.out k hlt
   subst sS;have hmem:l.getD k (false,0)∈l:=by simp[List.getD,hlt]
   have hin:=HI.out _ hmem;have hdrop:l.drop k=l.getD k (false,0)::l.drop (k+1):=by rw[wO hlt];simp[List.getD,hlt]
   obtain⟨⟨t,v⟩,hsy⟩:=af (l.getD k (false,0));rw[hsy]at k3 k4 hin hdrop;simp only at hin;obtain⟨y,rfl⟩:∃y:Nat,v=y:=⟨v.toNat,by omega⟩;have F4:wr.cell? ⟨b',o'+k*2,none⟩=some (.bool t):=(Bq.out.cell (p:=⟨b',o'+k*2,none⟩) hb').trans k3;have DT:wr.cell? ⟨b',o'+k*2+1,none⟩=some (.int .i64 y):=by rw[kF];exact(Bq.out.cell (p:=⟨b',o'+(k*2+1),none⟩) hb').trans k4
   have j0:(0:Int)<=(k:Int):=aF _;have j1:(k:Int)<(l.length:Int):=by omega
   have m0:(wr.alloc (.cells #[.bool t,.int .i64 y] 121)).cell? ⟨w.heap.size,0,none⟩=some (.slice na N nc):=by rw[dB _ _ _ (by omega)];exact b0
   have m1:(wr.alloc (.cells #[.bool t,.int .i64 y] 121)).cell? ⟨w.heap.size,1,none⟩=some (.slice fa N fc):=by rw[dB _ _ _ (by omega)];exact b1
   have HA:Hid (Bt (wr.alloc (.cells #[.bool t,.int .i64 y] 121)) B (aK T N (.slice na N nc) vf vg gb) Y):=Bt.alloc jd.out _;have oZ:Hid (Kept (aK T N (.slice na N nc) vf vg gb).K w (wr.alloc (.cells #[.bool t,.int .i64 y] 121))):=rT.out.alloc _;have HD:Hid (l.drop k=(t,(y:Int))::l.drop (k+1)):=hdrop;clear hmem hsy k3 k4 b0 b1 hdrop;cases t with
   |true=>
    have hyT:y<T:=by simp at hin;omega
    have put:=XB HA.out hd (m:=y) (by omega) hi;rw[HV.out]at put
    have HP:Hid (bI T i l X=(kY Y i y,false)):=by
     show bI T i l X=_;rw[HY.out,HD.out];simp[bI]
    clear hin
    go_wp2_with (go_at_call 82;refine put.mono ?_;rintro e w2 ⟨rfl,hB2,hK2⟩)
    go_ret;exact⟨by rw[HP.out];rfl,by rw[HP.out];exact hB2,oZ.out.trans hK2⟩
   |false=>
    have zH:y<N:=by simp at hin;omega
    have all:=XC (i:=i) (j:= .f y) (nj:=T) HA.out hd (by simp[bP,zH]) Bp hi hT;rw[HV.out]at all;have all':Calls Tryz.prog 84 #[.slice ia n ic,vf y,.func (.func 82) #[] #[.pointer (some ⟨gb,0,none⟩)]] _ _:=all;obtain⟨fg,XE,hfe,hnK,k5⟩:=HF.out.2 y zH;cases hfe;have k6:(wr.alloc (.cells #[.bool false,.int .i64 y] 121)).cell? ⟨fg,y,none⟩=some (vf y):=oZ.out.cell hnK k5;have j2:(0:Int)<=(y:Int):=aF _;have j3:(y:Int)<(N:Int):=by omega
    have HP:Hid (bI T i l X=if bit (gQ i (.f y) T Y) .null y then bI T i (l.drop (k+1)) (gQ i (.f y) T Y) else (gQ i (.f y) T Y,false)):=by
     show bI T i l X=_;rw[HY.out,HD.out];simp[bI]
    clear hin k5 all;cases hz:bit (gQ i (.f y) T Y) .null y with
    |true=>
     rw[hz]at HP;have HZ:Hid (bit (gQ i (.f y) T Y) .null y=true):=hz;clear hz
     go_wp2_with
      (go_at_call 84;refine all'.mono ?_;rintro e w2 ⟨rfl,hB2,hK2⟩
       have n0:=hK2.cell (p:=⟨w.heap.size,0,none⟩) (Bt.jD HB.out (ah _)) m0;have n2:=hK2.cell (p:=⟨wr.heap.size,1,none⟩) (Bt.jD jd.out (ah _)) (v:= .int .i64 y) (by simp[go_sem]);obtain⟨ng,Qa,hne,_,_⟩:=Bt.form (i:=Iy.null) (n:=N) hB2 rfl (by omega);cases hne;obtain⟨n3,_⟩:=Bt.cell (i:=Iy.null) (n:=N) hB2 rfl rfl zH;rw[HZ.out]at n3;have HB2:Hid (Bt w2 B _ _):=hB2;have fQ:Hid (Kept _ _ w2):=hK2
       clear hB2 hK2)
     go_roundw
     case rel=>exact⟨k+1,by go_num,by omega,_,HP.out,HB2.out,(oP.out.alloc _).trans fQ.out⟩
     case measure=>simp[intOf];omega
    |false=>
     rw[hz]at HP;have HZ:Hid (bit (gQ i (.f y) T Y) .null y=false):=hz;clear hz
     go_wp2_with
      (go_at_call 84;refine all'.mono ?_;rintro e w2 ⟨rfl,hB2,hK2⟩
       have n0:=hK2.cell (p:=⟨w.heap.size,0,none⟩) (Bt.jD HB.out (ah _)) m0;have n2:=hK2.cell (p:=⟨wr.heap.size,1,none⟩) (Bt.jD jd.out (ah _)) (v:= .int .i64 y) (by simp[go_sem]);obtain⟨ng,Qa,hne,_,_⟩:=Bt.form (i:=Iy.null) (n:=N) hB2 rfl (by omega);cases hne;obtain⟨n3,_⟩:=Bt.cell (i:=Iy.null) (n:=N) hB2 rfl rfl zH;rw[HZ.out]at n3;have HB2:Hid (Bt w2 B _ _):=hB2;have fQ:Hid (Kept _ _ w2):=hK2
       clear hB2 hK2)
     go_ret;exact⟨by rw[HP.out];rfl,by rw[HP.out];exact HB2.out,oZ.out.trans fQ.out⟩
  ·obtain rfl:k=l.length:=by omega
   have HP:Hid (bI T i l X=(Y,true)):=by
    show bI T i l X=_;rw[HY.out,List.drop_length];rfl
   go_wp2_with fail
   go_ret;exact⟨by rw[HP.out];rfl,by rw[HP.out];exact jd.out,rT.out⟩
end
def lQ(T:Nat)(L:Nat)(l:List Sy)(X:Xs):Xs:=if (bI T (.f L) l X).2 then kY (bI T (.f L) l X).1 .null L else (bI T (.f L) l X).1
def qJ(T:Nat)(L:Nat)(l:List Sy)(k:Nat)(Y:Xs):Xs:=
 if (l.getD k (false,0)).1 then Y else
  if (bI T (.g (l.getD k (false,0)).2.toNat) (l.drop (k+1)) Y).2 then gQ (.g (l.getD k (false,0)).2.toNat) (.g L) (T+1) (bI T (.g (l.getD k (false,0)).2.toNat) (l.drop (k+1)) Y).1
  else (bI T (.g (l.getD k (false,0)).2.toNat) (l.drop (k+1)) Y).1
def LB(T:Nat)(L:Nat)(l:List Sy)(X:Xs):Xs:=bf l.length (qJ T L l) X
theorem iy.drop{w:World}{B b o c:Nat}{l:List Sy}(h:iy w B (some ⟨b,o,none⟩) l)(n:Nat)(hc:l.length<=c)(hn:n<=l.length):
 iy w B (if c=n then some ⟨b,o,none⟩ else some ⟨b,o+n*2,none⟩) (l.drop n):=λj hj=>by
 have hl:(l.drop n).length=l.length-n:=by simp
 rw[hl]at hj;obtain⟨b',o',e,h0,h1,h2⟩:=h (n+j) (by omega);cases e;have hg:(l.drop n).getD j (false,0)=l.getD (n+j) (false,0):=by simp[List.getD]
 refine⟨b,o+n*2,by rw[aj (by omega)],h0,?_,?_⟩
 ·rw[hg,<-h1];congr 2;omega
 ·rw[hg,<-h2];congr 2;omega
section
variable{T N:Nat}{nv:Value}{vf vg:Nat->Value}{gb:Nat}
theorem afi{w:World}{B lc L gl gc:Nat}{fv:Value}{la ga:Option Addr}{X:Xs}{l:List Sy}(h:Bt w B (aK T N nv vf vg gb) X)(hB:B<=w.heap.size)(hL:L<N)
 (hF:kP w (aK T N nv vf vg gb).K N fv vf) (hl:iy w B la l) (hin:∀s∈l,0<=s.2/\s.2<if s.1 then (T:Int) else (N:Int)) (hT:T<=1000) (h8:l.length<=1000):
 Calls Tryz.prog 46 #[.agg #[nv,fv,.slice ga gl gc],.agg #[.int .i64 L,.slice la l.length lc],.func (.func 82) #[] #[.pointer (some ⟨gb,0,none⟩)]] w λe w'=>
  e= .returned (.tuple #[])/\Bt w' B (aK T N nv vf vg gb) (lQ T L l X)/\Kept (aK T N nv vf vg gb).K w w':=by
 obtain⟨na,nc,vX⟩:=Bt.slice (i:=Iy.null) (n:=N) h rfl;have CB:nv= .slice na N nc:=vX;clear vX;obtain⟨fg,fc,tC,hfK,hfc⟩:=hF.2 L hL;subst CB;subst tC;obtain⟨ia,ic,xU⟩:=Bt.slice (i:=Iy.f L) (n:=T) h (by simp[aK,bP,hL]);have afj:vf L= .slice ia T ic:=xU;have IB:Kept (aK T N (.slice na N nc) vf vg gb).K w ((w.alloc (.cells #[.slice na N nc,.slice (some ⟨fg,0,none⟩) N fc,.slice ga gl gc] 64)).alloc (.cells #[.int .i64 L,.slice la l.length lc] 96)):=((Kept.refl _ _).alloc _).alloc _
 have first:=XD (w:=((w.alloc (.cells #[.slice na N nc,.slice (some ⟨fg,0,none⟩) N fc,.slice ga gl gc] 64)).alloc (.cells #[.int .i64 L,.slice la l.length lc] 96)).drew)
  (i:= .f L) (lc:=lc) (gl:=gl) (gc:=gc) (ga:=ga) (Bt.drew (Bt.alloc (Bt.alloc h _) _)) (by show B<=((w.alloc _).alloc _).heap.size;simp;omega) (n:=T) (by simp[bP,hL]) (ah _) (by simp) (hF.kept IB.drew) (hl.below (IB.drew.below (λb hb=>Bt.ge h hb) hB)) hin hT h8
 have first':Calls Tryz.prog 83 #[.agg #[.slice na N nc,.slice (some ⟨fg,0,none⟩) N fc,.slice ga gl gc],vf L,.slice la l.length lc,.func (.func 82) #[] #[.pointer (some ⟨gb,0,none⟩)]] _ _:=first
 rw[afj]at first';have HB:Hid (Bt w B (aK T N (.slice na N nc) vf vg gb) X):=h;have rT:Hid (Kept (aK T N (.slice na N nc) vf vg gb).K w ((w.alloc (.cells #[.slice na N nc,.slice (some ⟨fg,0,none⟩) N fc,.slice ga gl gc] 64)).alloc (.cells #[.int .i64 L,.slice la l.length lc] 96))):=IB;have k6:((w.alloc (.cells #[.slice na N nc,.slice (some ⟨fg,0,none⟩) N fc,.slice ga gl gc] 64)).alloc (.cells #[.int .i64 L,.slice la l.length lc] 96)).cell? ⟨fg,L,none⟩=some (vf L):=IB.cell hfK hfc;have j2:(0:Int)<=(L:Int):=aF _;have j3:(L:Int)<(N:Int):=by omega
 clear h hF hl hin IB first hfc xU
 go_enter Tryz.func46,Tryz.ntmps46
 go_upto_region 2 with fail
 go_cut [16] from 6 to 22 (λs16 wx=>s16= .bool (bI T (.f L) l X).2/\Bt wx B (aK T N (.slice na N nc) vf vg gb) (bI T (.f L) l X).1/\
  Kept (aK T N (.slice na N nc) vf vg gb).K ((w.alloc (.cells #[.slice na N nc,.slice (some ⟨fg,0,none⟩) N fc,.slice ga gl gc] 64)).alloc (.cells #[.int .i64 L,.slice la l.length lc] 96)) wx)
 case first=>
  refine xq 10 (by kernel_rfl) (by kernel_rfl) ?_;simp only[List.take_succ_cons,List.take_zero,qP,om]
  repeat still_step
  refine xg ?_
  go_wp2_with (go_at_call 83;refine first'.mono ?_;rintro e w2 ⟨rfl,hB2,hK2⟩)
  go_meet
  case rel=>exact⟨rfl,hB2,(Kept.refl _ _).drew.trans hK2⟩
 case rest=>
  obtain⟨rfl,hB2,hK2⟩:=hcut;have b0:=hK2.cell (p:=⟨w.heap.size,0,none⟩) (Bt.jD HB.out (ah _)) (v:= .slice na N nc) (by simp[go_sem]);have b1:=hK2.cell (p:=⟨w.heap.size+1,0,none⟩) (Bt.jD HB.out (nK _)) (v:= .int .i64 L) (by simp[go_sem]);have HB2:Hid (Bt wc B (aK T N (.slice na N nc) vf vg gb) (bI T (.f L) l X).1):=hB2;have fQ:Hid (Kept (aK T N (.slice na N nc) vf vg gb).K w wc):=rT.out.trans hK2;clear hB2 hK2 first' k6;cases hz:(bI T (.f L) l X).2 with
  |true=>
   have put:=XB (i:= .null) HB2.out (n:=N) rfl hL (by simp);have put':Calls Tryz.prog 82 #[.slice na N nc,.int .i64 L,.pointer (some ⟨gb,0,none⟩)] _ _:=put;have HP:Hid (lQ T L l X=kY (bI T (.f L) l X).1 .null L):=by show lQ T L l X=_;simp[lQ,hz]
   clear hz put
   go_wp2_with (go_at_call 82;refine put'.mono ?_;rintro e w2 ⟨rfl,hB3,hK3⟩)
   go_end0
   exact⟨rfl,by rw[HP.out];exact hB3,fQ.out.trans hK3⟩
  |false=>
   have HP:Hid (lQ T L l X=(bI T (.f L) l X).1):=by show lQ T L l X=_;simp[lQ,hz]
   clear hz
   go_wp2_with fail
   go_end0
   exact⟨rfl,by rw[HP.out];exact HB2.out,fQ.out⟩
end
end Go.Proofs.YthbifaoaiggooaaGreatDoor
