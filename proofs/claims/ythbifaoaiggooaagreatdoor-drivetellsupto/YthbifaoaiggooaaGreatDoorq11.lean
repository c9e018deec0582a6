import Derived.Test.YthbifaoaiggooaaGreatDoorq10
set_option maxHeartbeats 6400000
set_option maxRecDepth 100000
namespace Go.Proofs.YthbifaoaiggooaaGreatDoor
open Go.RowKit
theorem WN{w:World}{lim b o c:Nat}{L:List It}(h:kr w lim (.slice (some ⟨b,o,none⟩) L.length c) L):∀j u,(L.flatMap bF)[j]?=some u->w.cell? ((⟨b,o,none⟩:Addr).add j)=some u:=λj u hu=>by
 have hadd:(⟨b,o,none⟩:Addr).add j=⟨b,o+j,none⟩:=by unfold Addr.add;split<;>simp_all
 rw[hadd];have hj:j<L.length*2:=by rw[<-Hy];exact(qw.1 hu).1
 obtain⟨k,hk⟩:∃k,j=k*2\/j=k*2+1:=⟨j/2,by omega⟩;have hkl:k<L.length:=by omega
 obtain⟨b',o',c',e,_,h1,h2⟩:=h.2 k hkl;cases e;rcases hk with rfl|rfl
 ·rw[h1]
  have:=Hw (k:=0) hkl (by omega);rw[Nat.add_zero,hu]at this;exact this.symm
 ·rw[h2]
  have:=Hw (k:=1) hkl (by omega);rw[hu]at this;exact this.symm
theorem WO(L:List It):∀u∈L.flatMap bF,u.oneCell'=true:=λu hu=>by
 simp only[bF,Aa,iW,wS,wY]at hu;obtain⟨i,_,rfl|rfl⟩:=hu<;>rfl
theorem aev{w:World}{lim:Nat}{bv:Value}{l:List It}(h:kr w lim bv l)(hlim:lim<=w.heap.size)(h0:0<l.length)(hl:l.length<=1000):
 Calls Tryz.prog 146 #[bv] w λe w'=> ∃g cap,e= .returned (.slice (some ⟨g,0,none⟩) l.length cap)/\w'.ownsRow w.heap.size 157 2 (.slice (some ⟨g,0,none⟩) l.length cap) l.length (l.flatMap bF)/\Below w.heap.size w w':=by
 obtain⟨lb,lo,lc,hbv,_⟩:=h.2 0 h0;subst hbv;have WQ:=h.below ((ai _ w).alloc hlim (.cells #[] 157));have Ig:=sM (base:=w.heap.size) (e:=157) (size:=2) w #[] 0 (ah _) (by unfold maxLen;omega) rfl;obtain⟨i0,hi0,hz0,hz1,hz2⟩:=fK Tryz.infoIt;have n1:0+l.length<=maxLen:=by unfold maxLen;omega
 have n2:(0+l.length)*16<=140737488355328:=by omega
 have hnw:=WN WQ;have q22:∀(w:World) (a:Option Addr) (n c n' c':Nat),(binOp .eql 158 (.slice a n c) (.slice none n' c')).run Tryz.prog w= .ok (.bool a.isNone) w:=λw a n c n' c'=>Lib.run_eql_slice_nil w _ _ a n c n' c' Tryz.underlying158;clear h WQ
 go_enter Tryz.func146,Tryz.ntmps146
 go_wp2_with
  (at_builtin
   (refine ow _ rfl _ _ _ rfl w.heap.size 157 i0 _ 2 16 Tryz.underlying158 hi0 hz0 hz1 hz2 rfl (by omega) (.slice (some ⟨w.heap.size,0,none⟩) 0 0) 0 [] rfl Ig ⟨lb,lo,none⟩ l.length lc (l.flatMap bF) rfl (Hy l) hnw (WO l) h0 n1 n2 (by simp) (w.heap.size+1) (by simp) ?_)
   intro g1 zC w1 hown1 hgrow1 Le hlt1)
 go_ret;rw[eO]at*;refine⟨g1,zC,rfl,by simpa using hown1,((ai _ _).alloc (ah _) _).grown hgrow1 (by simp) (λk hk=>by simp only[Value.ownBlock,bM]at hk;omega)⟩
structure nU(R:List Ru)(l O:List It)(dn:List Bool)(i:Nat):Prop where
 pre:∃E,O=l++E/\∀x∈E,∃q,q<R.length/\x=(q,0)
 uO:O.Nodup
 snd:∀x∈O,Cl R (· ∈l) x
 cls:∀j,j<i->j<O.length->∀n:Nat,(aR R (O.getD j (0,0)).1)[(O.getD j (0,0)).2]?=some (false,(n:Int))->dn.getD n false=true
 Cm:∀n:Nat,dn.getD n false=true->∀q,q<R.length->(R.getD q (0,[])).1=(n:Int)->(q,0)∈O
 new:∀q,q<R.length->(q,0)∈O->∃n:Nat,(R.getD q (0,[])).1=n/\dn.getD n false=true
section
variable{R:List Ru}{l O:List It}{dn:List Bool}{i:Nat}
theorem aew{N:Nat}(hl:l.Nodup)(h0:∀x∈l,x.2=0->x.1=R.length):nU R l l (List.replicate N false) 0:=by
 refine⟨⟨[],by simp,λx hx=>by cases hx⟩,hl,λx hx=> .base hx,λj hj=>absurd hj (iI _),λn hn=> ?_,λq hq hm=> ?_⟩
 ·exfalso
  rw[List.getD,List.getElem?_replicate]at hn;split at hn<;>simp at hn
 ·have:=h0 _ hm rfl
  simp only at this;omega
theorem nU.len(h:nU R l O dn i):O.length<=l.length+R.length:=by
 obtain⟨E,rfl,hE⟩:=h.pre;have hn:E.Nodup:=(List.nodup_append.1 h.uO).2.1
 have:=Vh (B:=(List.range R.length).map λq=>((q,0):It)) hn λx hx=>by
  obtain⟨q,hq,rfl⟩:=hE x hx;exact jP.2 ⟨q,jC.2 hq,rfl⟩
 simp only[cK,qR]at this;simp only[aS];omega
theorem nU.skip(h:nU R l O dn i)(hs:∀n:Nat,(aR R (O.getD i (0,0)).1)[(O.getD i (0,0)).2]?=some (false,(n:Int))->dn.getD n false=true):nU R l O dn (i+1):=
 ⟨h.pre,h.uO,h.snd,λj hj hjl n hn=>by
   rcases fJ.1 hj with hj|rfl
   ·exact h.cls j hj hjl n hn
   ·exact hs n hn,h.Cm,h.new⟩
theorem Ih{m:Int}{k:Nat}{x:It}:x∈fw R m k↔∃q,q<k/\(R.getD q (0,[])).1=m/\x=(q,0):=by
 unfold fw;rw[jP];constructor
 ·rintro ⟨q,hq,rfl⟩
  rw[sD,jC]at hq;exact⟨q,hq.1,by simpa using hq.2,rfl⟩
 ·rintro ⟨q,h1,h2,rfl⟩
  exact⟨q,sD.2 ⟨jC.2 h1,by simpa using h2⟩,rfl⟩
theorem aex(m:Int)(k:Nat):(fw R m k).Nodup:=by
 unfold fw;have h1:((List.range k).filter λn=>decide ((R.getD n (0,[])).1=m)).Nodup:=List.nodup_range.sublist List.filter_sublist;generalize ((List.range k).filter λn=>decide ((R.getD n (0,[])).1=m))=A at h1
 induction A with
 |nil=>simp
 |cons a A ih=>
  rw[FN]at h1;rw[jB,FN];refine⟨λhm=> ?_,ih h1.2⟩;obtain⟨b,hb,e⟩:=jP.1 hm;simp only[qx,and_true]at e;exact h1.1 (e▸hb)
theorem Lg{L:List Bool}{n m:Nat}(hn:n<L.length):(L.set n true).getD m false=if m=n then true else L.getD m false:=by
 by_cases h:m=n
 ·subst h;simp[List.getD,hn]
 ·simp[List.getD,List.getElem?_set_ne (λe=>h e.symm),h]
theorem nU.add(h:nU R l O dn i)(hi:i<O.length){n:Nat}(hs:(aR R (O.getD i (0,0)).1)[(O.getD i (0,0)).2]?=some (false,(n:Int)))(hn:n<dn.length)(hd:dn.getD n false=false):nU R l (O++fw R n R.length) (dn.set n true) (i+1):=by
 have get:∀j,j<O.length->(O++fw R n R.length).getD j (0,0)=O.getD j (0,0):=λj hj=>by simp[List.getD,List.getElem?_append_left hj]
 have hO:O.getD i (0,0)∈O:=by simp[List.getD,hi]
 have up:∀m,dn.getD m false=true->(dn.set n true).getD m false=true:=λm hm=>by rw[Lg hn];split<;>simp_all
 have hnew:∀x∈fw R n R.length,x∉O:=λx hx hxO=>by
  obtain⟨q,hq,hL,rfl⟩:=Ih.1 hx;obtain⟨m,h1,h2⟩:=h.new q hq hxO;rw[hL]at h1;have:m=n:=by omega
  rw[this,hd]at h2;cases h2
 refine⟨?_,?_,λx hx=> ?_,λj hj hjl m hm=> ?_,λm hm q hq hL=> ?_,λq hq hx=> ?_⟩
 ·obtain⟨E,hE,hE2⟩:=h.pre
  refine⟨E++fw R n R.length,by rw[hE,mG],λx hx=> ?_⟩;rcases iV.1 hx with hx|hx
  ·exact hE2 x hx
  ·obtain⟨q,hq,_,rfl⟩:=Ih.1 hx
   exact⟨q,hq,rfl⟩
 ·rw[List.nodup_append]
  exact⟨h.uO,aex _ _,λa ha b hb e=>hnew b hb (e▸ha)⟩
 ·rcases iV.1 hx with hx|hx
  ·exact h.snd x hx
  ·obtain⟨q,hq,hL,rfl⟩:=Ih.1 hx
   exact .step (h.snd _ hO) hs hq hL
 ·rw[get j (by omega)]at hm
  rcases fJ.1 hj with hj|rfl
  ·exact up m (h.cls j hj (by omega) m hm)
  ·rw[hs]at hm
   simp only[bM,qx,true_and]at hm;have:m=n:=by omega
   subst this;rw[Lg hn,au rfl]
 ·rw[Lg hn]at hm
  split at hm
  ·rename_i e
   subst e;exact List.mem_append_right _ (Ih.2 ⟨q,hq,hL,rfl⟩)
  ·exact Dw _ (h.Cm m hm q hq hL)
 ·rcases iV.1 hx with hx|hx
  ·obtain⟨m,h1,h2⟩:=h.new q hq hx
   exact⟨m,h1,up m h2⟩
  ·obtain⟨q',hq',hL,e⟩:=Ih.1 hx
   cases e;exact⟨n,hL,by rw[Lg hn,au rfl]⟩
theorem nU.all(h:nU R l O dn i)(hi:O.length<=i)(hsy:∀r,r<=R.length->∀s∈aR R r,s.1=false->0<=s.2)(hv:∀x∈l,x.1<=R.length):∀x,x∈O↔Cl R (· ∈l) x:=λx=>by
 refine⟨h.snd x,λhc=> ?_⟩
 have hR:∀x,Cl R (· ∈l) x->x.1<=R.length:=λx hx=>by
  induction hx with
  |base hb=>exact hv _ hb
  |step _ _ h2 _ _=>exact iQ h2
 induction hc with
 |base hb=>
  obtain⟨E,rfl,_⟩:=h.pre;exact Dw _ hb
 |step hc h1 h2 h3 ih=>
  rename_i r d n m;obtain⟨j,hj,he⟩:=kE ih;have e:O.getD j (0,0)=O[j]:=by simp[List.getD,hj]
  have hm:0<=m:=hsy r (hR _ hc) (false,m) (ou h1) rfl;obtain⟨k,rfl⟩:∃k:Nat,m=k:=⟨m.toNat,by omega⟩;exact h.Cm k (h.cls j (by omega) hj k (by rw[e,he];exact h1)) n h2 h3
end
def P2(ov:Value)(O:List It)(dg N:Nat)(dn:List Bool):Bool->Option Row
 |false=>some ⟨ov,157,2,O.length,O.flatMap bF⟩
 |true=>some ⟨.slice (some ⟨dg,0,none⟩) N N,4,1,N,dn.map Value.bool⟩
theorem aey{ov aL:Value}{O O':List It}{dg N:Nat}{dn:List Bool}:upd (P2 ov O dg N dn) false ⟨aL,157,2,O'.length,O'.flatMap bF⟩=P2 aL O' dg N dn:=by
 funext i
 cases i<;>simp[upd,P2]
theorem WR{ov:Value}{O:List It}{dg N n:Nat}{dn:List Bool}:upd (P2 ov O dg N dn) true ⟨.slice (some ⟨dg,0,none⟩) N N,4,1,N,(dn.map Value.bool).set n (.bool true)⟩=P2 ov O dg N (dn.set n true):=by
 funext i
 cases i<;>simp[upd,P2,List.map_set]
theorem aez{w:World}{lim ab T N:Nat}{rv bv:Value}{R:List Ru}{l:List It}(hA:jT w lim ab T N rv R)(hI:kr w w.heap.size bv l)(hnd:l.Nodup)(h0:0<l.length)(hl:l.length<=500)(hok:∀x∈l,qb R x)(hz:∀x∈l,x.2=0->x.1=R.length)(hR:R.length<=40)
 (hsy:∀r,r<=R.length->∀s∈aR R r,s.1=false->0<=s.2/\s.2<(N:Int)) (hN:N<=12):
 Calls Tryz.prog 117 #[.pointer (some ⟨ab,0,none⟩),bv] w λe w'=> ∃(g cap:Nat) (C:List It),e= .returned (.slice (some ⟨g,0,none⟩) C.length cap)/\w'.ownsRow w.heap.size 157 2 (.slice (some ⟨g,0,none⟩) C.length cap) C.length (C.flatMap bF)/\C.Pairwise jL/\(∀i,i∈C↔Cl R (· ∈l) i)/\C.length<=600/\Below w.heap.size w w':=by
 have cl:=aev hI (ah _) h0 (by omega);have HA:Hid (jT w lim ab T N rv R):=hA;have rQ:Hid (∀x∈l,qb R x):=hok;have l7:Hid (∀r,r<=R.length->∀s∈aR R r,s.1=false->0<=s.2/\s.2<(N:Int)):=hsy;have mq:Hid (nU R l l (List.replicate N false) 0):=aew hnd hz;clear hA hI hnd hok hz hsy
 go_enter Tryz.func117,Tryz.ntmps117
 have mkB:=Eg N (by omega)
 go_wp2_with
  (go_at_call 146;refine cl.mono ?_;rintro e w1 ⟨g1,zC,rfl,WS,hB1⟩
   have a1:=(HA.out.later hB1).n;have HB1:Hid (Below w.heap.size w w1):=hB1;have HR1:Hid (w1.ownsRow w.heap.size 157 2 (.slice (some ⟨g1,0,none⟩) l.length zC) l.length (l.flatMap bF)):=WS
   clear hB1 WS cl)
 have HB2:Hid (Below w.heap.size w (w1.alloc (.cells (madeCells #[.bool false] N) 4))):=HB1.out.alloc HB1.out.size _
 have Ew:Hid (aA (w1.alloc (.cells (madeCells #[.bool false] N) 4)) w.heap.size (P2 (.slice (some ⟨g1,0,none⟩) l.length zC) l w1.heap.size N (List.replicate N false))):=by
  have hb:=(OX w1 (N:=N) (by unfold maxLen;omega)).mono HB1.out.size;have hi:=HR1.out.alloc (.cells (madeCells #[.bool false] N) 4);refine⟨λi r hr=> ?_,λi j a b hij ha hb' g h1 h2=> ?_⟩
  ·cases i<;>simp only[P2,bM]at hr<;>subst hr
   ·exact hi
   ·exact hb
  ·have hlt:=(HR1.out.lt g1 rfl).2
   cases i<;>cases j<;>simp only[P2,bM]at ha hb'<;>subst ha<;>subst hb'<;>simp only[Value.ownBlock,bM]at h1 h2
   ·exact hij rfl
   ·omega
   ·omega
   ·exact hij rfl
 generalize w1.alloc (.cells (madeCells #[.bool false] N) 4)=W2 at HB2 Ew⊢;obtain⟨dg,hdg⟩:=af w1.heap.size;rw[hdg]at Ew⊢;clear hdg mkB a1 HB1 HR1
 go_loopw [5,7] (λs5 s7 wr=> ∃(i g cap:Nat) (O:List It) (dn:List Bool),s5= .slice (some ⟨g,0,none⟩) O.length cap/\s7= .int .i64 i/\i<=O.length/\Below w.heap.size w wr/\aA wr w.heap.size (P2 (.slice (some ⟨g,0,none⟩) O.length cap) O dg N dn)/\nU R l O dn i) (λ_ s _=>l.length+R.length+1-(intOf s).toNat)
 case atStart=>exact⟨0,g1,zC,l,_,rfl,rfl,aP _,HB2.out,Ew.out,mq.out⟩
 case round=>
  clear HB2 Ew mq;obtain⟨i,g,cap,O,dn,rfl,rfl,hi,hB,hO,hC⟩:=hrel;have HB:Hid (Below w.heap.size w wr):=hB;have HO:Hid (aA wr w.heap.size (P2 (.slice (some ⟨g,0,none⟩) O.length cap) O dg N dn)):=hO;have HC:Hid (nU R l O dn i):=hC;have hlen:=hC.len;have hrow:wr.ownsRow w.heap.size 157 2 (.slice (some ⟨g,0,none⟩) O.length cap) O.length (O.flatMap bF):=hO.own false _ rfl;by_cases hlt:i<O.length
  ·obtain⟨b',o',c',vS,_,q0,q1⟩:=(Em hrow rfl).2 i hlt
   cases vS;simp only[eO]at q0 q1;obtain⟨⟨a,b⟩,hab⟩:=af (O.getD i (0,0));rw[hab]at q0 q1;simp only at q0 q1;have hmem:(a,b)∈O:=by rw[<-hab];simp[List.getD,hlt]
   have ok:=OQ rQ.out (hC.snd _ hmem);have hAr:=HA.out.below hB HA.out.le HA.out.lt;have i0:(0:Int)<=(i:Int):=aF _;have i1:(i:Int)<(O.length:Int):=by omega
   have HAB:Hid (O.getD i (0,0)=(a,b)):=hab;have HAr:Hid (jT wr lim ab T N rv R):=hAr;have hdr:wr.ownsRow w.heap.size 4 1 (.slice (some ⟨dg,0,none⟩) N N) N (dn.map Value.bool):=hO.own true _ rfl;have hdl:dn.length=N:=by have:=hdr.1;simpa using this
   cases hnx:(aR R a)[b]? with
   |none=>
    have nx:=KW (a:=a) (b:=b) hAr ok.1 (by have:=JL.1 hnx;have h2:b<=(aR R a).length:=ok.2;omega);have HS:Hid (nU R l O dn (i+1)):=hC.skip λn hn=>by rw[hab]at hn;simp only at hn;rw[hnx]at hn;cases hn
    clear hB hO hC hab hmem ok hAr hdr hdl hrow
    go_wp2_with
     (go_at_call 121;refine nx.mono ?_;rintro e w2 ⟨rfl,hB2⟩)
    go_roundw
    case rel=>
     have hb:=hB2.alloc hB2.size (.cells #[.bool false,.int .i64 0] 121);exact⟨i+1,g,cap,O,dn,rfl,by go_num,by omega,HB.out.trans (hb.mono HB.out.size),HO.out.below hb (ah _),HS.out⟩
    case measure=>simp[intOf];omega
   |some s=>
    have nx:=KV hAr ok.1 hnx;have hss:=l7.out a ok.1 s (ou hnx);obtain⟨sb,sv⟩:=s;simp only at hss nx;cases sb with
    |true=>
     have HS:Hid (nU R l O dn (i+1)):=hC.skip λn hn=>by rw[hab]at hn;simp only at hn;rw[hnx]at hn;cases hn
     clear hB hO hC hab hmem ok hAr hdr hdl hrow hss
     go_wp2_with
      (go_at_call 121;refine nx.mono ?_;rintro e w2 ⟨rfl,hB2⟩)
     go_roundw
     case rel=>
      have hb:=hB2.alloc hB2.size (.cells #[.bool true,.int .i64 sv] 121);exact⟨i+1,g,cap,O,dn,rfl,by go_num,by omega,HB.out.trans (hb.mono HB.out.size),HO.out.below hb (ah _),HS.out⟩
     case measure=>simp[intOf];omega
    |false=>
     obtain⟨n0,n1⟩:=hss rfl;obtain⟨n,rfl⟩:∃n:Nat,sv=n:=⟨sv.toNat,by omega⟩;have Wn:n<N:=by omega
     have n2:(n:Int)<(N:Int):=by omega
     have Ii:wr.cell? ⟨dg,n,none⟩=some (.bool (dn.getD n false)):=by
      rw[hdr.cellAt n (by omega)];simp[List.getD,show n<dn.length by omega]
     have Pw:wr.frozen? ⟨dg,n,none⟩=false:=hdr.frozenAt n;have Be:dg<wr.heap.size:=(hdr.lt dg rfl).2;have ajd:w.heap.size<=dg:=(hdr.lt dg rfl).1;cases hd:dn.getD n false with
     |true=>
      rw[hd]at Ii
      have HS:Hid (nU R l O dn (i+1)):=hC.skip λm hm=>by
       rw[hab]at hm;simp only at hm;rw[hnx]at hm;simp only[bM,qx,true_and]at hm;have:m=n:=by omega
       rw[this];exact hd
      clear hB hO hC hab hmem ok hAr hdr hdl hrow hss hd Pw
      go_wp2_with
       (go_at_call 121;refine nx.mono ?_;rintro e w2 ⟨rfl,hB2⟩
        have WU:=(hB2.cell (p:=⟨dg,n,none⟩) Be).trans Ii;have WV:dg<w2.heap.size:=jg Be hB2.size;have HB2:Hid (Below wr.heap.size wr w2):=hB2
        clear hB2)
      go_roundw
      case rel=>
       have hb:=HB2.out.alloc HB2.out.size (.cells #[.bool false,.int .i64 n] 121);exact⟨i+1,g,cap,O,dn,rfl,by go_num,by omega,HB.out.trans (hb.mono HB.out.size),HO.out.below hb (ah _),HS.out⟩
      case measure=>simp[intOf];omega
     |false=>
      rw[hd]at Ii;have HS:Hid (nU R l (O++fw R n R.length) (dn.set n true) (i+1)):=hC.add hlt (by rw[hab];exact hnx) (by omega) hd;obtain⟨RI,xP⟩:=af (fw R n R.length);have aef:RI.length<=40:=by rw[<-xP];exact aZ (Pb _ _ _) hR
      have La:Hid (fw R n R.length=RI):=xP;rw[xP]at HS
      have hOg:aA (wr.setCell ⟨dg,n,none⟩ (.bool true)) w.heap.size (P2 (.slice (some ⟨g,0,none⟩) O.length cap) O dg N (dn.set n true)):=by
       have:=hO.store (i:=true) (g:=dg) (n:=N) (cap:=N) (e:=4) (size:=1) (xs:=dn.map Value.bool) rfl n (.bool true);rw[WR]at this;exact this
      have WW:Hid (∀w2,Below wr.heap.size wr w2->aA ((w2.setCell ⟨dg,n,none⟩ (.bool true)).alloc (.cells #[.bool false,.int .i64 n] 121)) w.heap.size (P2 (.slice (some ⟨g,0,none⟩) O.length cap) O dg N (dn.set n true))/\
       Below w.heap.size w ((w2.setCell ⟨dg,n,none⟩ (.bool true)).alloc (.cells #[.bool false,.int .i64 n] 121))):=λw2 hB2=>by
       have h1:=HO.out.below hB2 (ah _);have h2:=h1.store (i:=true) (g:=dg) (n:=N) (cap:=N) (e:=4) (size:=1) (xs:=dn.map Value.bool) rfl n (.bool true);rw[WR]at h2;have h3:Below w.heap.size w w2:=HB.out.trans (hB2.mono HB.out.size);exact⟨h2.alloc _,(h3.setCell (by simp only;omega) _).alloc (by simpa using h3.size) _⟩
      obtain⟨vQ,hi0,hz0,hz1,hz2⟩:=fK Tryz.infoIt;have m1:O.length+RI.length<=maxLen:=by unfold maxLen;omega
      have m2:(O.length+RI.length)*16<=140737488355328:=by omega
      clear hB hO hC hab hmem ok hAr hdr hdl hrow hss hd xP hOg;by_cases hnil:RI=[]
      ·subst hnil
       simp only[qp]at HS
       go_wp2_with
        (first
         |(go_at_call 121;refine nx.mono ?_;rintro e w2 ⟨rfl,hB2⟩
           have WU:=(hB2.cell (p:=⟨dg,n,none⟩) Be).trans Ii;have df2:=(hB2.frozen (p:=⟨dg,n,none⟩) Be).trans Pw;have WV:dg<w2.heap.size:=jg Be hB2.size;obtain⟨hO4,hB4⟩:=WW.out w2 hB2;have Cv:Hid (aA ((w2.setCell ⟨dg,n,none⟩ (.bool true)).alloc (.cells #[.bool false,.int .i64 n] 121)) w.heap.size (P2 (.slice (some ⟨g,0,none⟩) O.length cap) O dg N (dn.set n true))):=hO4;have jm:Hid (Below w.heap.size w ((w2.setCell ⟨dg,n,none⟩ (.bool true)).alloc (.cells #[.bool false,.int .i64 n] 121))):=hB4;have vR:=Pd (m:=(n:Int)) (HA.out.below hB4 HA.out.le HA.out.lt) hR;rw[La.out]at vR
           clear hB2 hO4 hB4 nx)
         |(go_at_call 124;refine vR.mono ?_;rintro e w5 ⟨rv5,rfl,Ij,aD,WX⟩
           obtain rfl:=WX (by trivial);have bV:w5.ownsRow w.heap.size 157 2 (.slice (some ⟨g,0,none⟩) O.length cap) O.length (O.flatMap bF):=(Cv.out.below aD (ah _)).own false _ rfl;have gP:Hid (Below w.heap.size w w5/\aA w5 w.heap.size (P2 (.slice (some ⟨g,0,none⟩) O.length cap) O dg N (dn.set n true))):=⟨jm.out.trans (aD.mono jm.out.size),Cv.out.below aD (ah _)⟩
           clear Ij aD WX vR)
         |(at_builtin
           (refine wpList_append_own_none rfl _ _ _ rfl w.heap.size 157 vQ 2 Tryz.underlying158 hi0 (.slice (some ⟨g,0,none⟩) O.length cap) O.length (O.flatMap bF) rfl bV rfl ?_)))
       go_roundw
       case rel=>exact⟨i+1,g,cap,O,dn.set n true,rfl,by go_num,by omega,gP.out.1,gP.out.2,HS.out⟩
       case measure=>simp[intOf];omega
      ·have hpos:0<RI.length:=FL.2 hnil
       clear hnil
       go_wp2_with
        (first
         |(go_at_call 121;refine nx.mono ?_;rintro e w2 ⟨rfl,hB2⟩
           have WU:=(hB2.cell (p:=⟨dg,n,none⟩) Be).trans Ii;have df2:=(hB2.frozen (p:=⟨dg,n,none⟩) Be).trans Pw;have WV:dg<w2.heap.size:=jg Be hB2.size;obtain⟨hO4,hB4⟩:=WW.out w2 hB2;have Cv:Hid (aA ((w2.setCell ⟨dg,n,none⟩ (.bool true)).alloc (.cells #[.bool false,.int .i64 n] 121)) w.heap.size (P2 (.slice (some ⟨g,0,none⟩) O.length cap) O dg N (dn.set n true))):=hO4;have jm:Hid (Below w.heap.size w ((w2.setCell ⟨dg,n,none⟩ (.bool true)).alloc (.cells #[.bool false,.int .i64 n] 121))):=hB4;have vR:=Pd (m:=(n:Int)) (HA.out.below hB4 HA.out.le HA.out.lt) hR;rw[La.out]at vR
           clear hB2 hO4 hB4 nx)
         |(go_at_call 124;refine vR.mono ?_;rintro e w5 ⟨rv5,rfl,Ij,aD,-⟩
           obtain⟨rg,aeA,aeB,_,_⟩:=Ij.form hpos;subst aeB;have bV:w5.ownsRow w.heap.size 157 2 (.slice (some ⟨g,0,none⟩) O.length cap) O.length (O.flatMap bF):=(Cv.out.below aD (ah _)).own false _ rfl;have ku:=WN (Em Ij rfl);have gP:Hid (Below w.heap.size w w5/\aA w5 w.heap.size (P2 (.slice (some ⟨g,0,none⟩) O.length cap) O dg N (dn.set n true))):=⟨jm.out.trans (aD.mono jm.out.size),Cv.out.below aD (ah _)⟩;have hsz5:w.heap.size<=w5.heap.size:=gP.out.1.size
           clear Ij aD vR)
         |(at_builtin
           (refine ow _ rfl _ _ _ rfl w.heap.size 157 vQ _ 2 16 Tryz.underlying158 hi0 hz0 hz1 hz2 rfl (by omega) (.slice (some ⟨g,0,none⟩) O.length cap) O.length (O.flatMap bF) rfl bV ⟨rg,0,none⟩ RI.length aeA (RI.flatMap bF) rfl (Hy RI) ku (WO RI) hpos m1 m2 hsz5 w5.heap.size rfl ?_)
           intro g6 cap6 w6 hown6 fP oL vN))
       go_roundw
       case rel=>
        have bC:Below w.heap.size w w6:=gP.out.1.grown fP gP.out.1.size (λj hj=>(bV.lt j hj).1);have h6:=gP.out.2.turn (i:=false) (r':=⟨.slice (some ⟨g6,0,none⟩) (O.length+RI.length) cap6,157,2,(O++RI).length,(O++RI).flatMap bF⟩) rfl fP (by rw[aS,qQ];exact hown6) (λg' hg'=>by simp only[Value.ownBlock,bM]at hg';subst hg';exact oL);rw[aey]at h6;refine⟨i+1,g6,cap6,O++RI,dn.set n true,by rw[aS],by go_num,by rw[aS];omega,bC,by rw[aS];exact h6,HS.out⟩
       case measure=>simp[intOf];omega
  ·obtain rfl:i=O.length:=by omega
   have He:=aeu hrow (by omega) hC.uO;have xQ:Hid (∀x,x∈O↔Cl R (· ∈l) x):=hC.all (ah _) (λr hr s hs he=>(l7.out r hr s hs he).1) (λx hx=>(rQ.out x hx).1);clear hB hO hC hrow
   go_wp2_with
    (go_at_call 147;refine He.mono ?_;rintro e w2 ⟨rfl,C,Ey,hCs,tK,WY,hCg⟩)
   go_ret;rw[<-Ey]at WY;refine⟨g,cap,C,by rw[Ey];rfl,WY,hCs,λx=>(tK x).trans (xQ.out x),by omega,?_⟩
   exact HB.out.grown hCg HB.out.size (λj hj=>by
    simp only[bM]at hj;subst hj;have:=(HO.out.own false _ rfl).lt g rfl
    exact this.1)
theorem aeC{w:World}{av bv:Value}{A B:List It}{la lb:Nat}(hA:kr w la av A)(hB:kr w lb bv B)(hl:A.length<=1000/\B.length<=1000):
 Calls Tryz.prog 119 #[av,bv] w λe w'=>e= .returned (.bool (decide (A=B)))/\Below w.heap.size w w':=by
 obtain⟨aa,ac,Px⟩:=hA.1;obtain⟨ba,bc,hbv⟩:=hB.1;subst Px;subst hbv;by_cases hne:A.length=B.length
 ·have e1:((A.length:Int) !=(B.length:Int))=false:=by simp;omega
  have HA:Hid (kr w la (.slice aa A.length ac) A):=hA;have HB:Hid (kr w lb (.slice ba B.length bc) B):=hB;have HL:Hid (A.length=B.length):=hne;clear hA hB hne
  go_enter Tryz.func119,Tryz.ntmps119
  go_wp2_with fail
  go_loopw [13] (λs wr=> ∃k m:Nat,s= .int .i64 k/\k<=A.length/\wr=w.drewN m/\∀j,j<k->A.getD j (0,0)=B.getD j (0,0)) (λs _=>A.length-(intOf s).toNat)
  case atStart=>exact⟨0,0,rfl,aP _,rfl,λj hj=>absurd hj (iI _)⟩
  case round=>
   obtain⟨k,m,rfl,hk,rfl,hno⟩:=hrel;have Ik:Hid (∀j,j<k->A.getD j (0,0)=B.getD j (0,0)):=hno;clear hno;by_cases hlt:k<A.length
   ·obtain⟨b,o,c,hv,_,k3,k4⟩:=HA.out.2 k hlt
    cases hv;obtain⟨b',o',c',hv',_,k5,k6⟩:=HB.out.2 k (by rw[<-HL.out];exact hlt);cases hv';rw[<-kF]at k4 k6;obtain⟨⟨p,q⟩,hpq⟩:=af (A.getD k (0,0));obtain⟨⟨x,y⟩,hxy⟩:=af (B.getD k (0,0));rw[hpq]at k3 k4;rw[hxy]at k5 k6;simp only at k3 k4 k5 k6;have HPQ:Hid (A.getD k (0,0)=(p,q)/\B.getD k (0,0)=(x,y)):=⟨hpq,hxy⟩;have i0:(0:Int)<=(k:Int):=aF _;have i1:(k:Int)<(A.length:Int):=by omega
    have i2:(k:Int)<(B.length:Int):=by rw[<-HL.out];omega
    clear hpq hxy;by_cases he:p=x/\q=y
    ·obtain⟨rfl,rfl⟩:=he
     have aeD:Hid (∀j,j<k+1->A.getD j (0,0)=B.getD j (0,0)):=λj hj=>by
      rcases fJ.1 hj with hj|rfl
      ·exact Ik.out j hj
      ·rw[HPQ.out.1,HPQ.out.2]
     go_wp2_with fail
     go_big_quiet (fail)
     go_wp2_with fail
     go_roundw
     case rel=>exact⟨k+1,_,by go_num,by omega,rfl,aeD.out⟩
     case measure=>simp[intOf];omega
    ·have HD:Hid (decide (A=B)=false):=aU λe=>by
      have h1:=HPQ.out.1;rw[e,HPQ.out.2]at h1;cases h1;exact he ⟨rfl,rfl⟩
     by_cases hp:p=x
     ·subst hp
      have hq:¬q=y:=λe=>he ⟨rfl,e⟩;have e1:((q:Int)==(y:Int))=false:=by simp;omega
      have e2:((p:Int)==(p:Int))=true:=by simp
      clear he
      go_wp2_with fail
      go_big_quiet (fail)
      go_wp2_with fail
      go_ret;exact⟨by rw[HD.out];rfl,iR (iR (ai _ _) _) _⟩
     ·have e1:((p:Int)==(x:Int))=false:=by simp;omega
      clear he
      go_wp2_with fail
      go_big_quiet (fail)
      go_wp2_with fail
      go_ret;exact⟨by rw[HD.out];rfl,iR (iR (ai _ _) _) _⟩
   ·have HD:Hid (decide (A=B)=true):=aT (by
     refine wP HL.out λj h1 h2=> ?_;have:=Ik.out j (by omega)
     rwa [Lb h1,Lb h2]at this)
    go_wp2_with fail
    go_ret;exact⟨by rw[HD.out];rfl,iR (ai _ _) _⟩
 ·have e1:((A.length:Int) !=(B.length:Int))=true:=by simp;omega
  have HD:Hid (decide (A=B)=false):=aU λe=>hne (by rw[e]);clear hA hB hne
  go_enter Tryz.func119,Tryz.ntmps119
  go_wp2_with fail
  go_ret;exact⟨by rw[HD.out];rfl,ai _ _⟩
theorem aeE{w:World}{ib:Nat}{av cv:Value}{A C:List It}{la lc:Nat}(hA:kr w la av A)(hC:kr w lc cv C)(hi:w.cell? ⟨ib,0,none⟩=some cv)(hl:A.length<=1000/\C.length<=1000):
 Calls Tryz.prog 118 #[av,.pointer (some ⟨ib,0,none⟩)] w λe w'=>e= .returned (.bool (decide (A=C)))/\Below w.heap.size w w':=by
 have eq:=aeC hA hC hl;obtain⟨ca,cc,hcv⟩:=hC.1;obtain⟨aa,ac,Px⟩:=hA.1;subst hcv;subst Px;clear hA hC
 go_enter Tryz.func118,Tryz.ntmps118
 go_wp2_with (go_at_call 119;refine eq.mono ?_;rintro e w1 ⟨rfl,hB⟩)
 go_ret;exact⟨rfl,hB⟩
structure Ez(w:World)(sv:Value)(IV:Nat->Value)(OL:List (List It)):Prop where
 slice:∃a c,sv= .slice a OL.length c
 cell:∀k,k<OL.length->∃g c,sv= .slice (some ⟨g,0,none⟩) OL.length c/\w.cell? ⟨g,k,none⟩=some (IV k)
 items:∀k,k<OL.length->kr w w.heap.size (IV k) (OL.getD k [])
theorem Ez.below{w w':World}{sv:Value}{IV:Nat->Value}{OL:List (List It)}(h:Ez w sv IV OL)(hb:Below w.heap.size w w'):Ez w' sv IV OL:=
 ⟨h.slice,λk hk=>let ⟨g,c,h1,h2⟩:=h.cell k hk;⟨g,c,h1,(hb.cell (aQ _ _ h2)).trans h2⟩,λk hk=>((h.items k hk).below hb).mono hb.size⟩
theorem aB.lists{w0 w:World}{d:gL}{v:dK}{G:Wy->Option Value}{ng:Nat}{st:LS}(h:aB w0 w d v G ng st):Ez w v.sv v.IV v.OL:=
 ⟨h.states,λ_ hk=>let ⟨g,c,h1,_,h2⟩:=h.state hk;⟨g,c,h1,h2⟩,λ_ hk=>h.items hk⟩
theorem aeF{w:World}{sv cv:Value}{IV:Nat->Value}{OL:List (List It)}{C:List It}{ib:Nat}(hL:Ez w sv IV OL)(hC:kr w w.heap.size cv C)(hi:w.cell? ⟨ib,0,none⟩=some cv)(hl:OL.length<=1000)(hO:∀k,k<OL.length->(OL.getD k []).length<=1000)(Ey:C.length<=1000):
 Calls Tryz.prog 120 #[sv,.func (.func 118) #[] #[.pointer (some ⟨ib,0,none⟩)]] w λe w'=>(∃z:Int,e= .returned (.int .i64 z)/\((z= -1/\∀j,j<OL.length->OL.getD j []≠C)\/∃n:Nat,z=n/\n<OL.length/\OL.getD n []=C))/\Below w.heap.size w w':=by
 obtain⟨sa,sc,hsv⟩:=hL.slice;subst hsv;have HL:Hid (Ez w (.slice sa OL.length sc) IV OL):=hL;have HC:Hid (kr w w.heap.size cv C):=hC;have HO:Hid (∀k,k<OL.length->(OL.getD k []).length<=1000):=hO;have HI:Hid (w.cell? ⟨ib,0,none⟩=some cv):=hi;clear hL hC hO hi
 go_enter Tryz.func120,Tryz.ntmps120
 go_wp2_with fail
 go_loopw [8] (λs wr=> ∃k:Nat,s= .int .i64 k/\k<=OL.length/\Below w.heap.size w wr/\∀j,j<k->OL.getD j []≠C) (λs _=>OL.length-(intOf s).toNat)
 case atStart=>exact⟨0,rfl,aP _,ai _ _,λj hj=>absurd hj (iI _)⟩
 case round=>
  obtain⟨k,rfl,hk,hB,hno⟩:=hrel;have HB:Hid (Below w.heap.size w wr):=hB;have Ik:Hid (∀j,j<k->OL.getD j []≠C):=hno;by_cases hlt:k<OL.length
  ·have Py:=HL.out.below hB
   obtain⟨g,c,hv,q0⟩:=Py.cell k hlt;cases hv;have hit:=Py.items k hlt;have EA:=aeE (ib:=ib) hit (HC.out.below hB) ((hB.cell (aQ _ _ HI.out)).trans HI.out) ⟨HO.out k hlt,Ey⟩;obtain⟨ia,ic,hiv⟩:=hit.1;rw[hiv]at q0 EA;have i0:(0:Int)<=(k:Int):=aF _;have i1:(k:Int)<(OL.length:Int):=by omega
   obtain⟨n,hn⟩:=af ((OL.getD k []).length);rw[hn]at q0 EA;clear hB hno Py hit hiv hn;by_cases he:OL.getD k []=C
   ·rw[aT he]at EA
    have HE:Hid (OL.getD k []=C):=he;clear he
    go_wp2_with (go_at_call 118;refine EA.mono ?_;rintro e w1 ⟨rfl,hB1⟩)
    go_ret;exact⟨⟨k,rfl,.inr ⟨k,rfl,hlt,HE.out⟩⟩,HB.out.trans (hB1.mono HB.out.size)⟩
   ·rw[aU he]at EA
    have HE:Hid (∀j,j<k+1->OL.getD j []≠C):=λj hj=>by
     rcases fJ.1 hj with hj|rfl
     ·exact Ik.out j hj
     ·exact he
    clear he
    go_wp2_with (go_at_call 118;refine EA.mono ?_;rintro e w1 ⟨rfl,hB1⟩)
    go_roundw
    case rel=>exact⟨k+1,by go_num,by omega,HB.out.trans (hB1.mono HB.out.size),HE.out⟩
    case measure=>simp[intOf];omega
  ·clear hB hno
   go_wp2_with fail
   go_ret;exact⟨⟨-1,rfl,.inl ⟨rfl,λj hj=>Ik.out j (by omega)⟩⟩,HB.out⟩
structure Pz(R:List Ru)(l:List It):Prop where
 uO:l.Nodup
 pos:0<l.length
 few:l.length<=500
 ok:∀x∈l,qb R x
 zero:∀x∈l,x.2=0->x.1=R.length
theorem WZ{w0 w:World}{d:gL}{v:dK}{G:Wy->Option Value}{ng:Nat}{st:LS}{R:List Ru}{Nu:List Bool}{Fi:List (List Bool)}{bv:Value}{l:List It}(E:kM w0 d R Nu Fi)(h:aB w0 w d v G ng st)(hI:kr w w.heap.size bv l)(hl:Pz R l)(few:v.OL.length<=150)(hO:∀k,k<v.OL.length->(v.OL.getD k []).length<=1000):
 Calls Tryz.prog 85 #[.pointer (some ⟨d.ma,0,none⟩),bv] w λe w'=> ∃(n:Nat) (v':dK) (C:List It),e= .returned (.int .i64 n)/\C.Pairwise jL/\(∀i,i∈C↔Cl R (· ∈l) i)/\Hg v.OL C n v'.OL/\v'.ov=v.ov/\aB w0 w' d v' G ng st/\aO d v v' w w':=by
 have Xa:=aez (h.auto E) hI hl.uO hl.pos hl.few hl.ok hl.zero E.hR (λr hr s hs he=>(E.sym r hr s hs).2 he) E.hN.2;have HM:Hid (aB w0 w d v G ng st):=h;have HO:Hid (∀k,k<v.OL.length->(v.OL.getD k []).length<=1000):=hO;have HE:Hid (kM w0 d R Nu Fi):=E;obtain⟨ba,bc,hbv⟩:=hI.1;subst hbv;clear h hI hl hO E
 go_enter Tryz.func85,Tryz.ntmps85
 go_wp2_with
  (first
   |(go_at_call 117;refine Xa.mono ?_;rintro e w1 ⟨g,cap,C,rfl,hrow,hCs,tK,Ey,hB1⟩
     have HC:Hid (w1.ownsRow w.heap.size 157 2 (.slice (some ⟨g,0,none⟩) C.length cap) C.length (C.flatMap bF)/\C.Pairwise jL/\(∀i,i∈C↔Cl R (· ∈l) i)/\Below w.heap.size w w1):=⟨hrow,hCs,tK,hB1⟩;have hM1:=HM.out.below hB1;have hM2:=hM1.alloc (.cells #[.slice (some ⟨g,0,none⟩) C.length cap] 158);have hX2:=hM1.box #[.slice (some ⟨g,0,none⟩) C.length cap] 158;have hi2:=Em (hrow.alloc (.cells #[.slice (some ⟨g,0,none⟩) C.length cap] 158)) rfl;have idx:=aeF hM2.lists hi2 (hX2.cell (i:=0) rfl) (by omega) HO.out (by omega);have c6:=(hM2.cell (i:=6) rfl (by omega)).1;obtain⟨sa,sc,hsv⟩:=hM2.states;rw[hsv]at c6 idx;have Cs:Hid (v.sv= .slice sa v.OL.length sc):=hsv;have kN:Hid (aB w0 (w1.alloc (.cells #[.slice (some ⟨g,0,none⟩) C.length cap] 158)) d v G ng st):=hM2;have mY:Hid (dL (w1.alloc (.cells #[.slice (some ⟨g,0,none⟩) C.length cap] 158)) d v w1.heap.size #[.slice (some ⟨g,0,none⟩) C.length cap] 158):=hX2
     clear hrow hCs tK hB1 hM1 hM2 hX2 hi2 hsv Xa)
   |(go_at_call 120;refine idx.mono ?_;rintro e w3 ⟨⟨z,rfl,hz⟩,hB3⟩
     have pO:Hid (aB w0 w3 d v G ng st):=kN.out.below hB3;have qG:Hid (dL w3 d v w1.heap.size #[.slice (some ⟨g,0,none⟩) C.length cap] 158):=mY.out.below hB3;have HB3:Hid (Below w.heap.size w w3):=(HC.out.2.2.2.alloc HC.out.2.2.2.size _).trans (hB3.mono (by have:=HC.out.2.2.2.size;simp;omega));have HC3:Hid (w3.ownsRow w.heap.size 157 2 (.slice (some ⟨g,0,none⟩) C.length cap) C.length (C.flatMap bF)):=own_below (HC.out.1.alloc _) hB3 (λk hk=>((HC.out.1.alloc _).lt k hk).2);have HZ:Hid ((z= -1/\∀j,j<v.OL.length->v.OL.getD j []≠C)\/∃n:Nat,z=n/\n<v.OL.length/\v.OL.getD n []=C):=hz
     clear hz hB3 idx c6 kN mY))
 ·rename_i hz0
  go_ret;rcases HZ.out with⟨e,_⟩|⟨n,e,h1,h2⟩
  ·omega
  ·exact⟨n,v,C,by rw[e];rfl,HC.out.2.1,HC.out.2.2.1,.inl ⟨h1,h2,rfl⟩,rfl,pO.out,aO.dI HB3.out⟩
 ·have hno:Hid (∀j,j<v.OL.length->v.OL.getD j []≠C):=by
   show ∀j,j<v.OL.length->v.OL.getD j []≠C;rcases HZ.out with⟨_,h⟩|⟨n,e,_⟩
   ·exact h
   ·omega
  obtain⟨sb,hsb⟩:=af w1.heap.size;rw[hsb]at qG⊢;have h4:=pO.out.alloc (.cells #[.slice (some ⟨g,0,none⟩) C.length cap] 158);have x0:=qG.out.cell (i:=0) rfl;have e6:=(pO.out.cell (i:=6) rfl (by omega)).1;have f6:=(h4.cell (i:=6) rfl (by omega)).1;rw[Cs.out]at e6 f6
  have eU:((w3.alloc (.cells #[.slice (some ⟨g,0,none⟩) C.length cap] 158)).drew).ownsRow w0.heap.size 158 1 (.slice sa v.OL.length sc) v.OL.length ((List.range v.OL.length).map v.IV):=by
   have:=h4.own.own .st _ rfl;simp only[Cs.out]at this;exact this
  have hma:d.ma<w3.heap.size:=pO.out.El;have hne:some d.ma≠(Value.slice sa v.OL.length sc).ownBlock:=λe1=>h4.own.apart .ma .st _ _ (by simp) rfl rfl d.ma rfl (by show v.sv.ownBlock=_;rw[Cs.out];exact e1.symm);have Xb:=(h4.cell (i:=6) rfl (by omega)).2;have hn1:v.OL.length+1<=maxLen:=by unfold maxLen;omega
  have hn2:(v.OL.length+1)*24<=140737488355328:=by omega
  have hB3:w0.heap.size<=w3.heap.size:=pO.out.le;have jm:Hid (Below w.heap.size w (w3.alloc (.cells #[.slice (some ⟨g,0,none⟩) C.length cap] 158)).drew):=(HB3.out.alloc HB3.out.size _).drew;have HC4:Hid (((w3.alloc (.cells #[.slice (some ⟨g,0,none⟩) C.length cap] 158)).drew).ownsRow w.heap.size 157 2 (.slice (some ⟨g,0,none⟩) C.length cap) C.length (C.flatMap bF)):=HC3.out.alloc _;obtain⟨i5,hi0,kW,hz1,hz2⟩:=fK Tryz.infoIts;clear h4 hsb HZ
  go_cut [] from 8 (λwx=> ∃dW,v.OL.length+1<=1000/\aB w0 wx d { v with sv:=dW,IV:=rM v (.slice (some ⟨g,0,none⟩) C.length cap),OL:=v.OL++[C] } G ng st/\aO d v { v with sv:=dW,IV:=rM v (.slice (some ⟨g,0,none⟩) C.length cap),OL:=v.OL++[C] } w wx)
  case first=>
   go_region_law
    ((refine wZ _ (by rfl) _ _ _ (by rfl) w0.heap.size 158 i5 _ 1 24 Tryz.underlying109 hi0 kW hz1 hz2 rfl (by omega) (.slice sa v.OL.length sc) v.OL.length ((List.range v.OL.length).map v.IV) (by rfl) eU
       ⟨w3.heap.size,0,none⟩ 1 1 [.slice (some ⟨g,0,none⟩) C.length cap] (by rfl) (by rfl) (jh (cs:= #[.slice (some ⟨g,0,none⟩) C.length cap]) (t:=158) (fr:=(0,0)) (heap_alloc_new w3 _)) (by simp[Value.oneCell'])
       (by omega) hn1 hn2 (by simp;omega) (w3.heap.size+1) (by simp) ?_;intro g5 cap5 w5 hown5 hgrow hat zf;have Cw:=(hgrow.cell_far ⟨d.ma,6,none⟩ (by simp;omega) hne).trans f6;have f6':=(hgrow.frozen_far ⟨d.ma,6,none⟩ (by simp;omega) hne).trans Xb))
   all_goals
    go_wp2_with fail
    go_meet
    case rel=>
     have r:=HM.out.adW jm.out HC4.out (by rw[Cs.out];exact hgrow) hown5 (λg' hg'=>by
      obtain rfl:g5=g':=by simpa [Value.ownBlock] using hg'
      rw[Cs.out]
      simpa using hat)
     exact⟨_,by omega,r.1,r.2⟩
  case rest=>
   obtain⟨dW,_,iT,vU⟩:=hcut;have c6:=(iT.cell (i:=6) rfl (by omega)).1;obtain⟨a5,k5,EB⟩:=iT.states;simp only[aS,List.length_cons,List.length_nil,eO]at EB;simp only at c6;rw[EB]at c6;have HF:Hid (aB w0 wc d { v with sv:=dW,IV:=rM v (.slice (some ⟨g,0,none⟩) C.length cap),OL:=v.OL++[C] } G ng st/\aO d v { v with sv:=dW,IV:=rM v (.slice (some ⟨g,0,none⟩) C.length cap),OL:=v.OL++[C] } w wc):=⟨iT,vU⟩;clear iT vU EB eU f6 e6 Xb hne hn1 hn2
   go_wp2_with fail
   go_ret;exact⟨v.OL.length,{ v with sv:=dW,IV:=rM v (.slice (some ⟨g,0,none⟩) C.length cap),OL:=v.OL++[C] },C,by simp,HC.out.2.1,HC.out.2.2.1,.inr ⟨hno.out,rfl,rfl⟩,rfl,HF.out.1,HF.out.2⟩
def tL(s:Sy):List Value:=[.bool s.1,.int .i64 s.2]
theorem aeG{L:List Sy}{i k:Nat}(hi:i<L.length)(hk:k<2):(L.flatMap tL)[i*2+k]?=(tL (L.getD i (false,0)))[k]?:=by
 induction L generalizing i with
 |nil=>simp at hi
 |cons a L ih=>
  rw[gV];have hl:(tL a).length=2:=rfl;cases i with
  |zero=>rw[vo (by omega)];simp
  |succ i=>
   rw[o9 (by omega),hl,show (i+1)*2+k-2=i*2+k by omega];rw[ih (by simpa using hi)];simp[List.getD]
def lN(T n:Nat):List Sy:=(List.range n).map (dJ T)
theorem Xc(T n:Nat):lN T (n+1)=lN T n++[dJ T n]:=by unfold lN;rw[pF,fD];rfl
theorem aeH(T n:Nat):(lN T n).length=n:=by simp[lN]
theorem aeI{T n x:Nat}(h:x<n):(lN T n).getD x (false,0)=dJ T x:=by simp[lN,List.getD,h]
theorem aeJ{w:World}{lim ab T N:Nat}{rv:Value}{R:List Ru}(hA:jT w lim ab T N rv R)(hT:T<=8)(hN:N<=12):
 Calls Tryz.prog 87 #[.pointer (some ⟨ab,0,none⟩)] w λe w'=> ∃ov,e= .returned ov/\w'.ownsRow w.heap.size 121 2 ov (T+N) ((lN T (T+N)).flatMap tL)/\Below w.heap.size w w':=by
 have HA:Hid (jT w lim ab T N rv R):=hA;have a0:=hA.t;obtain⟨i5,hi0,hz0,hz1,hz2⟩:=fK Tryz.infoSy;have HI:Hid (Tryz.prog.info? 121=some i5/\i5.zero=some (.agg #[.bool false,.int .i64 0])/\i5.size=2/\i5.bytes=16):=⟨hi0,hz0,hz1,hz2⟩;clear hA hi0 hz0 hz1 hz2
 go_enter Tryz.func87,Tryz.ntmps87
 go_wp2_with fail
 clear a0
 go_loopw [3,11] (λs3 s11 wr=> ∃(k:Nat) (ov:Value),ov=s3/\s11= .int .i64 k/\k<=T/\wr.ownsRow w.heap.size 121 2 ov k ((lN T k).flatMap tL)/\Below w.heap.size w wr) (λ_ s _=>T-(intOf s).toNat)
 case atStart=>exact⟨0,_,rfl,rfl,aP _,ji w w.heap.size 121 2,ai _ _⟩
 case round=>
  obtain⟨k,ov,rfl,rfl,hk,hO,hB⟩:=hrel;have HB:Hid (Below w.heap.size w wr):=hB;have HO:Hid (wr.ownsRow w.heap.size 121 2 ov k ((lN T k).flatMap tL)):=hO;by_cases hlt:k<T
  ·have bV:=hO.alloc (.cells #[.bool true,.int .i64 k] 121)
   have ku:=jh (cs:= #[.bool true,.int .i64 k]) (t:=121) (fr:=(0,0)) (heap_alloc_new wr (.cells #[.bool true,.int .i64 k] 121));have hs1:w.heap.size<=wr.heap.size:=hB.size;have n1:k+1<=maxLen:=by unfold maxLen;omega
   have n2:(k+1)*16<=140737488355328:=by omega
   obtain⟨hi0,hz0,hz1,hz2⟩:=HI.out;have HS:Hid (lN T (k+1)=lN T k++[(true,(k:Int))]):=by show lN T (k+1)=_;rw[Xc];simp[dJ,hlt]
   clear hB hO
   go_wp2_with
    (at_builtin
     (refine ow _ rfl _ _ _ rfl w.heap.size 121 i5 _ 2 16 Tryz.underlying94 hi0 hz0 hz1 hz2 rfl (by omega) ov k ((lN T k).flatMap tL) rfl bV ⟨wr.heap.size,0,none⟩ 1 1 [.bool true,.int .i64 k] rfl rfl ku (by simp[Value.oneCell']) (by omega) n1 n2 (by simp;omega) (wr.heap.size+1) (by simp) ?_)
     intro g6 cap6 w6 hown6 fP oL vN)
   go_roundw
   case rel=>
    have bC:Below w.heap.size w w6:=(HB.out.alloc (by omega) _).grown fP (by simp;omega) (λj hj=>(HO.out.lt j hj).1);refine⟨k+1,_,rfl,by go_num,by omega,?_,bC⟩;rw[HS.out,qQ];exact hown6
   case measure=>simp[intOf];omega
  ·obtain rfl:k=T:=by omega
   have a1:=(HA.out.later hB).n;clear hB hO
   go_wp2_with fail
   clear a1
   go_loopw [3,25] (λs3 s25 wq=> ∃(j:Nat) (ov:Value),ov=s3/\s25= .int .i64 j/\j<=N/\wq.ownsRow w.heap.size 121 2 ov (k+j) ((lN k (k+j)).flatMap tL)/\Below w.heap.size w wq) (λ_ s _=>N-(intOf s).toNat)
   case atStart=>exact⟨0,ov,rfl,rfl,aP _,HO.out,HB.out⟩
   case round=>
    clear HB HO;obtain⟨j,ov,rfl,rfl,hj,hO,hB⟩:=hrel;have HB:Hid (Below w.heap.size w wr):=hB;have HO:Hid (wr.ownsRow w.heap.size 121 2 ov (k+j) ((lN k (k+j)).flatMap tL)):=hO;by_cases hjl:j<N
    ·have bV:=hO.alloc (.cells #[.bool false,.int .i64 j] 121)
     have ku:=jh (cs:= #[.bool false,.int .i64 j]) (t:=121) (fr:=(0,0)) (heap_alloc_new wr (.cells #[.bool false,.int .i64 j] 121));have hs1:w.heap.size<=wr.heap.size:=hB.size;have n1:k+j+1<=maxLen:=by unfold maxLen;omega
     have n2:(k+j+1)*16<=140737488355328:=by omega
     obtain⟨hi0,hz0,hz1,hz2⟩:=HI.out
     have HS:Hid (lN k (k+(j+1))=lN k (k+j)++[(false,(j:Int))]):=by
      show lN k (k+(j+1))=_;rw[<-kF,Xc];have:dJ k (k+j)=(false,(j:Int)):=by simp[dJ]
      rw[this]
     clear hB hO
     go_wp2_with
      (at_builtin
       (refine ow _ rfl _ _ _ rfl w.heap.size 121 i5 _ 2 16 Tryz.underlying94 hi0 hz0 hz1 hz2 rfl (by omega) ov (k+j) ((lN k (k+j)).flatMap tL) rfl bV ⟨wr.heap.size,0,none⟩ 1 1 [.bool false,.int .i64 j] rfl rfl ku (by simp[Value.oneCell']) (by omega) n1 n2 (by simp;omega) (wr.heap.size+1) (by simp) ?_)
       intro g6 cap6 w6 hown6 fP oL vN)
     go_roundw
     case rel=>
      have bC:Below w.heap.size w w6:=(HB.out.alloc (by omega) _).grown fP (by simp;omega) (λj hj=>(HO.out.lt j hj).1);refine⟨j+1,_,rfl,by go_num,by omega,?_,bC⟩;rw[HS.out,qQ];exact hown6
     case measure=>simp[intOf];omega
    ·obtain rfl:j=N:=by omega
     clear hB hO
     go_wp2_with fail
     go_ret;exact⟨ov,rfl,HO.out,HB.out⟩
theorem aeK{w0 w:World}{d:gL}{v:dK}{G:Wy->Option Value}{ng:Nat}{st:LS}{R:List Ru}{Nu:List Bool}{Fi:List (List Bool)}{Ls:List aV}{k x:Nat}(E:kM w0 d R Nu Fi)(h:aB w0 w d v G ng st)(hS:kK R v.OL Ls)(hk:k<v.OL.length):
 Calls Tryz.prog 88 #[.pointer (some ⟨d.ma,0,none⟩),.int .i64 k,.agg #[.bool (dJ d.T x).1,.int .i64 (dJ d.T x).2]] w λe w'=> ∃ov,e= .returned ov/\w'.ownsRow w.heap.size 157 2 ov (dV d.T R (v.OL.getD k []) x (v.OL.getD k []).length).length ((dV d.T R (v.OL.getD k []) x (v.OL.getD k []).length).flatMap bF)/\Below w.heap.size w w':=by
 have hlen:(v.OL.getD k []).length<=369:=by
  have:=KH E.Co (hS.lI k hk).uO (hS.ok k hk);have:=E.hR;omega
 have rQ:Hid (∀t∈v.OL.getD k [],qb R t):=hS.ok k hk;have HE:Hid (kM w0 d R Nu Fi):=E;obtain⟨g,c,hsv,_,q0⟩:=h.state hk;have hit:=h.items hk;have c6:=(h.cell (i:=6) rfl (by omega)).1;rw[hsv]at c6;obtain⟨ia,ic,hiv⟩:=hit.1;rw[hiv]at q0 hit;have Cw:=(((ai _ w).alloc (ah _) (.cells #[.bool (dJ d.T x).1,.int .i64 (dJ d.T x).2] 121)).cell (p:=⟨d.ma,6,none⟩) h.El).trans c6;have Cu:=(((ai _ w).alloc (ah _) (.cells #[.bool (dJ d.T x).1,.int .i64 (dJ d.T x).2] 121)).cell (p:=⟨g,k,none⟩) (aQ _ _ q0)).trans q0;obtain⟨O,hO⟩:=af (v.OL.getD k []);rw[hO]at Cu hit hlen rQ⊢;obtain⟨y,hy⟩:=af (dJ d.T x);have Gg:Hid (∀a b,a<=R.length->(kJ d.T R (a,b) x↔(aR R a)[b]?=some y)):=λa b ha=>by rw[<-hy];exact adw (N:=d.N) (i:=(a,b)) (E.sym a ha)
 rw[hy]at Cw Cu⊢;have HA:Hid (jT (w.alloc (.cells #[.bool y.1,.int .i64 y.2] 121)) w0.heap.size d.ma d.T d.N d.rv R):=(h.auto E).boxed _;have PD:Hid (kr (w.alloc (.cells #[.bool y.1,.int .i64 y.2] 121)) w.heap.size (.slice ia O.length ic) O):=hit.below ((ai _ _).alloc (ah _) _);have i0:(0:Int)<=(k:Int):=aF _;have i1:(k:Int)<(v.OL.length:Int):=by omega
 obtain⟨yb,yv⟩:=y;simp only at Cw Cu HA PD⊢;clear E h hS hsv hit hiv c6 q0 hO hy;obtain⟨W1,hW1⟩:=af (w.alloc (.cells #[.bool yb,.int .i64 yv] 121));have y0:W1.cell? ⟨w.heap.size,0,none⟩=some (.bool yb):=by rw[<-hW1];simp[go_sem]
 have y1:W1.cell? ⟨w.heap.size,1,none⟩=some (.int .i64 yv):=by rw[<-hW1];simp[go_sem]
 have HB1:Hid (Below w.heap.size w W1):=by show Below _ _ _;rw[<-hW1];exact(ai _ _).alloc (ah _) _
 have hsz1:w.heap.size<W1.heap.size:=by rw[<-hW1];simp
 rw[hW1]at Cw Cu HA PD;obtain⟨i5,hi0,hz0,hz1,hz2⟩:=fK Tryz.infoIt;have Cc:Hid (Tryz.prog.info? 157=some i5/\i5.zero=some (.agg #[.int .i64 0,.int .i64 0])/\i5.size=2/\i5.bytes=16):=⟨hi0,hz0,hz1,hz2⟩;clear hi0 hz0 hz1 hz2
 go_enter Tryz.func88,Tryz.ntmps88
 go_wp2_with fail
 clear hW1 Cw Cu
 go_loopw [7,20] (λs7 s20 wr=> ∃(j:Nat) (ov:Value),ov=s7/\s20= .int .i64 j/\j<=O.length/\wr.ownsRow W1.heap.size 157 2 ov (dV d.T R O x j).length ((dV d.T R O x j).flatMap bF)/\Below W1.heap.size W1 wr) (λ_ s _=>O.length-(intOf s).toNat)
 case atStart=>exact⟨0,_,rfl,rfl,aP _,ji W1 W1.heap.size 157 2,ai _ _⟩
 case round=>
  obtain⟨j,ov,rfl,rfl,hj,hO,hB⟩:=hrel;have HB:Hid (Below W1.heap.size W1 wr):=hB;have lF:Hid (Below w.heap.size w wr):=HB1.out.trans (hB.mono (by omega));have HO:Hid (wr.ownsRow W1.heap.size 157 2 ov (dV d.T R O x j).length ((dV d.T R O x j).flatMap bF)):=hO;by_cases hlt:j<O.length
  ·obtain⟨b',o',c',vS,_,q0,q1⟩:=(PD.out.below (hB.mono (by omega))).2 j hlt
   cases vS;rw[<-kF]at q1;obtain⟨⟨a,b⟩,hab⟩:=af (O.getD j (0,0));rw[hab]at q0 q1;simp only at q0 q1;have hmem:(a,b)∈O:=by rw[<-hab];simp[List.getD,hlt]
   have ok:=rQ.out _ hmem;have ha:a<=R.length:=ok.1;have hbl:b<=(aR R a).length:=ok.2;have Pk:=HE.out.Co a ha;have i2:(0:Int)<=(j:Int):=aF _;have i3:(j:Int)<(O.length:Int):=by omega
   have hAr:=(HA.out.later hB).boxed (.cells #[.int .i64 a,.int .i64 b] 157);have hkl:=Vn (T:=d.T) (R:=R) (x:=x) (O:=O) (j:=j);have EC:=Gg.out a b ha;have z0:=(hB.cell (p:=⟨w.heap.size,0,none⟩) hsz1).trans y0;have z1:=(hB.cell (p:=⟨w.heap.size,1,none⟩) hsz1).trans y1;have ED:w.heap.size<wr.heap.size:=jg hsz1 hB.size;cases hnx:(aR R a)[b]? with
   |none=>
    have nx:=KW (a:=a) (b:=b) hAr ha (by have:=JL.1 hnx;omega);have HK:Hid (dV d.T R O x (j+1)=dV d.T R O x j):=Vo hlt hab (by rw[EC,hnx];exact λe=>by cases e);clear hB hO hab hmem ok hAr EC hnx
    go_wp2_with
     (go_at_call 121;refine nx.mono ?_;rintro e w2 ⟨rfl,hB2⟩
      have HB2:Hid (Below wr.heap.size wr w2):=((ai _ _).alloc (ah _) _).trans (hB2.mono (by simp))
      clear hB2)
    go_roundw
    case rel=>
     have hb:=HB2.out.alloc HB2.out.size (.cells #[.bool false,.int .i64 0] 121);exact⟨j+1,ov,rfl,by go_num,by omega,by rw[HK.out];exact own_below HO.out hb (λk hk=>(HO.out.lt k hk).2),HB.out.trans (hb.mono HB.out.size)⟩
    case measure=>simp[intOf];omega
   |some s=>
    have nx:=KV hAr ha hnx;obtain⟨sb,sv⟩:=s;simp only at nx;by_cases hse:(sb,sv)=(yb,yv)
    ·cases hse
     have HK:Hid (dV d.T R O x (j+1)=dV d.T R O x j++[(a,b+1)]):=ac9 hlt hab (by rw[EC,hnx]);have K7:=λW=>Wi (w:=W) (a:=a) (b:=b) (by omega);obtain⟨p,hp⟩:=af ((dV d.T R O x j).length);rw[hp]at hkl HO;have HP:Hid ((dV d.T R O x j).length=p):=hp;have n1:p+1<=maxLen:=by unfold maxLen;omega
     have n2:(p+1)*16<=140737488355328:=by omega
     obtain⟨hi0,hz0,hz1,hz2⟩:=Cc.out;clear hB hO hab hmem ok hAr EC hnx hp
     cases yb<;>
      (go_wp2_with
        (first
         |(go_at_call 121;refine nx.mono ?_;rintro e w2 ⟨rfl,hB2⟩
           have x0:w2.cell? ⟨wr.heap.size,0,none⟩=some (.int .i64 a):=(hB2.cell (by simp)).trans (by simp[go_sem]);have x1:w2.cell? ⟨wr.heap.size,1,none⟩=some (.int .i64 b):=(hB2.cell (by simp)).trans (by simp[go_sem]);have HB2:Hid (Below wr.heap.size wr w2):=((ai _ _).alloc (ah _) _).trans (hB2.mono (by simp));have v0:=(HB2.out.cell (p:=⟨w.heap.size,0,none⟩) ED).trans z0;have v1:=(HB2.out.cell (p:=⟨w.heap.size,1,none⟩) ED).trans z1;have s2:wr.heap.size<w2.heap.size:=by have:=hB2.size;simp at this;omega
           have s3:w.heap.size<w2.heap.size:=by omega
           clear hB2)
         |(go_at_call 122;refine(K7 _).mono ?_;rintro e w4 ⟨rfl,hB4⟩
           have jm:Hid (Below wr.heap.size wr w4):=(HB2.out.alloc HB2.out.size _).trans (hB4.mono (by have:=HB2.out.size;simp;omega));have Xd:w4.ownsRow W1.heap.size 157 2 ov p ((dV d.T R O x j).flatMap bF):=own_below HO.out jm.out (λk hk=>(HO.out.lt k hk).2);have bV:=Xd.alloc (.cells #[.int .i64 a,.int .i64 ((b:Int)+1)] 157);have ku:=jh (cs:= #[.int .i64 a,.int .i64 ((b:Int)+1)]) (t:=157) (fr:=(0,0)) (heap_alloc_new w4 (.cells #[.int .i64 a,.int .i64 ((b:Int)+1)] 157));have hs5:W1.heap.size<=w4.heap.size:=by have:=jm.out.size;have:=HB.out.size;omega
           clear hB4 Xd)
         |(at_builtin
           (refine ow _ rfl _ _ _ rfl W1.heap.size 157 i5 _ 2 16 Tryz.underlying158 hi0 hz0 hz1 hz2 rfl (by omega) ov p ((dV d.T R O x j).flatMap bF) rfl bV ⟨w4.heap.size,0,none⟩ 1 1 [.int .i64 a,.int .i64 ((b:Int)+1)] rfl rfl ku (by simp[Value.oneCell']) (by omega) n1 n2 (by simp;omega) (w4.heap.size+1) (by simp) ?_)
           intro g6 cap6 w6 hown6 fP oL vN))
       go_roundw
       case rel=>
        have bC:Below W1.heap.size W1 w6:=((HB.out.trans (jm.out.mono HB.out.size)).alloc (by have:=HB.out.size;have:=jm.out.size;omega) _).grown fP (by have:=HB.out.size;have:=jm.out.size;simp;omega) (λq hq=>(HO.out.lt q hq).1);refine⟨j+1,_,rfl,by go_num,by omega,?_,bC⟩;rw[HK.out,qQ,aS,HP.out];exact hown6
       case measure=>simp[intOf];omega)
    ·have HK:Hid (dV d.T R O x (j+1)=dV d.T R O x j):=Vo hlt hab (by rw[EC,hnx];exact λe=>hse (by injection e))
     clear hB hO hab hmem ok hAr EC hnx;by_cases hbb:sb=yb
     ·subst hbb
      have e1:(sv==yv)=false:=by simpa using λe=>hse (by rw[e])
      clear hse
      cases sb<;>
       (go_wp2_with
         (go_at_call 121;refine nx.mono ?_;rintro e w2 ⟨rfl,hB2⟩
          have HB2:Hid (Below wr.heap.size wr w2):=((ai _ _).alloc (ah _) _).trans (hB2.mono (by simp));have v0:=(HB2.out.cell (p:=⟨w.heap.size,0,none⟩) ED).trans z0;have v1:=(HB2.out.cell (p:=⟨w.heap.size,1,none⟩) ED).trans z1;have s3:w.heap.size<w2.heap.size:=by have:=HB2.out.size;omega
          clear hB2)
        go_roundw
        case rel=>
         have hb:=λo=>HB2.out.alloc HB2.out.size o;exact⟨j+1,ov,rfl,by go_num,by omega,by rw[HK.out];exact own_below HO.out (hb _) (λk hk=>(HO.out.lt k hk).2),HB.out.trans ((hb _).mono HB.out.size)⟩
        case measure=>simp[intOf];omega)
     ·clear hse
      cases sb<;>cases yb<;>first
       |exact absurd rfl hbb
       |(go_wp2_with
          (go_at_call 121;refine nx.mono ?_;rintro e w2 ⟨rfl,hB2⟩
           have HB2:Hid (Below wr.heap.size wr w2):=((ai _ _).alloc (ah _) _).trans (hB2.mono (by simp));have v0:=(HB2.out.cell (p:=⟨w.heap.size,0,none⟩) ED).trans z0;have v1:=(HB2.out.cell (p:=⟨w.heap.size,1,none⟩) ED).trans z1;have s3:w.heap.size<w2.heap.size:=by have:=HB2.out.size;omega
           clear hB2)
         go_roundw
         case rel=>
          have hb:=λo=>HB2.out.alloc HB2.out.size o;exact⟨j+1,ov,rfl,by go_num,by omega,by rw[HK.out];exact own_below HO.out (hb _) (λk hk=>(HO.out.lt k hk).2),HB.out.trans ((hb _).mono HB.out.size)⟩
         case measure=>simp[intOf];omega)
  ·obtain rfl:j=O.length:=by omega
   clear hB hO
   go_wp2_with fail
   go_ret;exact⟨ov,rfl,lq HO.out (by omega),lF.out⟩
end Go.Proofs.YthbifaoaiggooaaGreatDoor
