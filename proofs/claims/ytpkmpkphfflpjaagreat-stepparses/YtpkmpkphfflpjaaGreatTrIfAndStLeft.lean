import Derived.Test.YtpkmpkphfflpjaaGreatTrEfAndTrNum
import Derived.Test.YtpkmpkphfflpjaaGreatStCopiesAndStRl
import Derived.Test.YtpkmpkphfflpjaaGreatDerdMathAndOne8Mem
set_option maxHeartbeats 6400000
set_option maxRecDepth 100000
namespace Go.Proofs.YtpkmpkphfflpjaaGreat
open Go.RowKit
def sI(sz:Nat)(T N o a b c:Int)(ra:Option Addr)(rl rc:Nat)(ov:Value)(fr:Nat)(q:Nat)(kv:Value)(wq:World):Prop:=
 wq.cell? ⟨sz,0,none⟩=some (.int .i64 T)/\wq.cell? ⟨sz,1,none⟩=some (.int .i64 N)/\wq.cell? ⟨sz,2,none⟩=some (.slice ra rl rc)/\wq.cell? ⟨sz,3,none⟩=some (.int .i64 o)/\wq.cell? ⟨sz,4,none⟩=some (.int .i64 a)/\wq.cell? ⟨sz,5,none⟩=some (.int .i64 b)/\wq.cell? ⟨sz,6,none⟩=some (.int .i64 c)/\wq.cell? ⟨sz,7,none⟩=some ov/\wq.cell? ⟨sz,8,none⟩=some (.int .i64 (fr:Int))/\wq.cell? ⟨sz+1,0,none⟩=some (.int .i64 (q:Int))/\wq.cell? ⟨sz+1,1,none⟩=some kv
def AZ(I:List Nat)(f sh aC rk:Nat->Nat)(ka fr:Nat)(q:Nat)(ks:Fo):Prop:=
 q<=100000/\(q≠ka->sh q=(if q<ka then q else q-1+I.length))/\(q=ka->∃j k2 k3,fE fr ks= .nd j k2 k3/\j≠ka/\aC (sh j)=j/\DT I f j/\rk j=ka+f j)
theorem Md{P:Nat->Fo->Prop}:∀(t u:Fo),kY P t->kY P u->kY P (aF t u)
 | .no,_,_,h=>h
 | .nd _ _ ts,u,h,h'=>⟨h.1,h.2.1,Md ts u h.2.2 h'⟩
theorem Rs{P:Nat->Fo->Prop}:∀(i:Nat) (t:Fo),kY P t->kY P (kS i t)
 |0,_,_=>trivial
 |_+1,.no,_=>trivial
 |i+1,.nd _ _ ts,h=>⟨h.1,h.2.1,Rs i ts h.2.2⟩
theorem Rv{P:Nat->Fo->Prop}:∀(i:Nat) (t:Fo),kY P t->kY P (fE i t)
 |0,_,h=>h
 |_+1,.no,_=>trivial
 |i+1,.nd _ _ ts,h=>Rv i ts h.2.2
theorem Z9{P:Nat->Fo->Prop}{i:Nat}{t:Fo}(h:kY P t):kY P (iA i t):=by
 unfold iA;have hd:=Rv i t h;refine Md _ _ (Rs i t h) (Md _ _ ?_ ?_)
 ·cases hD:fE i t with
  |no=>trivial
  |nd q ks ts=>rw[hD]at hd;exact hd.2.1
 ·cases hD:fE i t with
  |no=>trivial
  |nd q ks ts=>rw[hD]at hd;exact hd.2.2
theorem Rw:∀(i:Nat) (t:Fo),aF (kS i t) (fE i t)=t
 |0,_=>rfl
 |_+1,.no=>rfl
 |i+1,.nd _ _ ts=>by rw[kS,fE,aF,Rw i ts]
theorem Rx:∀(i:Nat) (t:Fo) {j k2 k3},fE i t= .nd j k2 k3->aS (kS i t)=i
 |0,_,_,_,_,_=>rfl
 |_+1,.no,_,_,_,h=>by cases h
 |i+1,.nd _ _ ts,_,_,_,h=>by rw[kS,aS,Rx i ts h]
theorem aac{a i:Nat}{sh aC rk:Nat->Nat}{t:Fo}{j:Nat}{k2 k3:Fo}(h:fE i t= .nd j k2 k3)(hj:j≠a):cB a i sh aC rk (iA i t)=iA i (cB a i sh aC rk t)/\rX (fE i (cB a i sh aC rk t))=sh j/\(ai (iA i t)).length+1=(ai t).length:=by
 have e:=Rw i t;rw[h]at e;have hl:=Rx i t h
 have e1:cB a i sh aC rk t=aF (cB a i sh aC rk (kS i t)) (.nd (sh j) (cB a i sh aC rk k2) (cB a i sh aC rk k3)):=by
  rw[<-e,Az,cB,if_neg hj,if_neg hj,e]
 have hl1:aS (cB a i sh aC rk (kS i t))=i:=by rw[KO];exact hl
 have e2:iA i t=aF (kS i t) (aF k2 k3):=by unfold iA;rw[h];rfl
 refine⟨?_,?_,?_⟩
 ·rw[e1,Dl hl1,e2,Az,Az]
 ·rw[e1,KN hl1];rfl
 ·have e3:(ai t).length=(ai (aF (kS i t) (.nd j k2 k3))).length:=by rw[e]
  rw[e2,e3,kP,kP,kP,ai];simp only[List.length_append,List.length_cons];omega
section
variable{w0:World}{B:Nat}{ov:Value}{I:List Nat}{f sh aC rk:Nat->Nat}{T N o b c:Int}{ra:Option Addr}{rl rc fr ka:Nat}
theorem aad(uz:I.length<=100000)(hO:w0.ownsRow B 3 1 ov I.length (iI I)):∀(n:Nat) (w:World) (q:Nat) (ks:Fo) (kv:Value) (A:Nat->Prop),(ai ks).length<n->Below w0.heap.size w0 w->AZ I f sh aC rk ka fr q ks->kY (AZ I f sh aC rk ka fr) ks->(ai ks).length<=2000->aG w A kv ks->(∀b,A b->b<w.heap.size)->
 Calls Tryz.prog 148 #[.agg #[.int .i64 T,.int .i64 N,.slice ra rl rc,.int .i64 o,.int .i64 (ka:Int),.int .i64 b,.int .i64 c,ov,.int .i64 (fr:Int)],.agg #[.int .i64 (q:Int),kv]] w fun e w'=> ∃kv',e= .returned (.agg #[.int .i64 ((if q=ka then rk (aC (rX (fE fr (cB ka fr sh aC rk ks)))) else sh q:Nat):Int),kv'])/\aG w' (fun b=>A b\/w.heap.size<=b) kv' (if q=ka then iA fr (cB ka fr sh aC rk ks) else cB ka fr sh aC rk ks)/\Below w.heap.size w w':=by
 obtain⟨ca,cc,hov⟩:=aY hO;subst hov;intro n
 induction n with
 |zero=>intro _ _ _ _ _ h;omega
 |succ n ih=>
 intro w q ks kv A hn hb0 uF hall hl hk hA;have hk1:=hk;obtain⟨aW,kc,hkv,_⟩:=hk1;obtain⟨n1,hn1⟩:∃n,aS ks=n:=⟨_,rfl⟩;rw[hn1]at hkv;subst hkv;obtain⟨W,hW⟩:∃W,((w.alloc (.cells #[.int .i64 T,.int .i64 N,.slice ra rl rc,.int .i64 o,.int .i64 (ka:Int),.int .i64 b,.int .i64 c,.slice ca I.length cc,.int .i64 (fr:Int)] 113)).alloc (.cells #[.int .i64 (q:Int),.slice aW n1 kc] 73)).alloc (.cells #[.int .i64 0,.slice none 0 0] 73)=W:=⟨_,rfl⟩;have hM:=oh hW
 have HS:Hid (∀wq,Below W.heap.size W wq->sI w.heap.size T N o ka b c ra rl rc (.slice ca I.length cc) fr q (.slice aW n1 kc) wq/\wq.heap[w.heap.size+1+1]?=some (.cells #[.int .i64 0,.slice none 0 0] 73 (0,0))):=fun wq h1=>by
  have hc:=(h1.block _ (by have:=hM.size;omega)).trans hM.fG;have ht:=(h1.block _ (by have:=hM.size;omega)).trans hM.gV;exact⟨⟨ah hc rfl,ah hc rfl,ah hc rfl,ah hc rfl,ah hc rfl,ah hc rfl,ah hc rfl,ah hc rfl,ah hc rfl,ah ht rfl,ah ht rfl⟩,(h1.block _ (by have:=hM.size;omega)).trans hM.res⟩
 obtain⟨x0,x1,x2,x3,x4,x5,x6,x7,x8,x9,x10⟩:=(HS.out W (Below.refl _ _)).1
 have rA:Hid (∀(wq:World) (A':Nat->Prop) (v':Value) (ks':Fo),Below W.heap.size W wq->aG wq A' v' ks'->(∀b,A' b->b<wq.heap.size)->(ai ks').length<=(ai ks).length->kY (AZ I f sh aC rk ka fr) ks'->Calls Tryz.prog 141 #[v',.func (.func 148) #[.agg #[.int .i64 T,.int .i64 N,.slice ra rl rc,.int .i64 o,.int .i64 (ka:Int),.int .i64 b,.int .i64 c,.slice ca I.length cc,.int .i64 (fr:Int)]] #[]] wq fun e w'=> ∃ov L',e= .returned ov/\gu w' wq.heap.size A' ov L'/\rowOf L'=cB ka fr sh aC rk ks'/\Below wq.heap.size wq w'):=fun wq A' v' ks' hq' hk' hA' hs' aae=>by
  refine AY (F:=fun q ks=>(if q=ka then rk (aC (rX (fE fr (cB ka fr sh aC rk ks)))) else sh q,if q=ka then iA fr (cB ka fr sh aC rk ks) else cB ka fr sh aC rk ks)) (G:=cB ka fr sh aC rk) (fun args w'=>by simp[callFunc,Tryz.func148,Tryz.f148 ]) rfl (fun _ _ _=>rfl) hk' hA' (by omega) fun w' q'' D5 D6 hm hb' hk'' D7=> ?_;have:=sj hm;have h2:=DW aae hm;exact ih w' q'' D5 D6 A' (by omega) (hb0.trans ((hM.below.trans ((hq'.trans (hb'.mono hq'.size)).mono hM.below.size)).mono hb0.size)) h2.1 h2.2 (by omega) hk'' D7
 have HM:Hid (Below w.heap.size w W/\w.heap.size+3<=W.heap.size/\Below w0.heap.size w0 W):=⟨hM.below,by have:=hM.size;omega,hb0.trans (hM.below.mono hb0.size)⟩;have HA:Hid (∀b,A b->b<w.heap.size):=hA;have HK:Hid (aG W A (.slice aW n1 kc) ks/\kY (AZ I f sh aC rk ka fr) ks/\(ai ks).length<=2000):=⟨hk.below hM.below,hall,hl⟩;have HQ:Hid (AZ I f sh aC rk ka fr q ks):=uF;clear ih hn hall hl hk hA hM hb0 uF;by_cases eF:q=ka
 ·subst eF
  obtain⟨j,k2,k3,hD,hj,hush,hAt,vM⟩:=HQ.out.2.2 rfl;obtain⟨Ry,hhd,hsz⟩:=aac (sh:=sh) (aC:=aC) (rk:=rk) hD hj;rw[if_pos rfl,if_pos rfl,hhd,hush,vM,<-Ry];have hfj:f j<=100000:=by have:=hAt.1;omega
  have hq1:=HQ.out.1;have hwr2:IntKind.i64.wrap ((q:Int)+(f j:Int))=(q:Int)+(f j:Int):=IntWalk.i64_in _ (by omega);have HFJ:Hid (((q+f j:Nat):Int)=(q:Int)+(f j:Int)):=by show _=_;omega
  rw[HFJ.out];obtain⟨L,hLk,hTL⟩:=HK.out.1.list;have hLn:L.length=n1:=by rw[<-hn1,<-hLk,nK]
  have hfl:fr<L.length:=by
   rcases Nat.lt_or_ge fr L.length with h|h
   ·exact h
   ·rw[<-hLk,<-um,List.drop_eq_nil_of_le h]at hD
    cases hD
  have Rz:L.length<=2000:=by have:=qj L;rw[hLk]at this;have:=HK.out.2.2;omega
  have Ib:=List.drop_eq_getElem_cons hfl;obtain⟨b1,o1,c1',hv,_,d1,d2⟩:=hTL.cells fr hfl;injection hv with hv1 hv2 hv3;clear hv2;subst hv1;subst hv3;obtain⟨xa,xc,hxv,-⟩:=hTL.kids L[fr] (List.getElem_mem hfl);have hkk:=hTL.kids L[fr] (List.getElem_mem hfl);obtain⟨⟨QM,q3,DZ⟩,hx3⟩:∃x,L[fr]=x:=⟨_,rfl⟩;rw[hx3]at d1 d2 hxv Ib hkk;simp only at d1 d2 hxv hkk;obtain⟨n3,jv⟩:∃n,aS DZ=n:=⟨_,rfl⟩;rw[jv]at hxv;subst hxv;have hD':rowOf (L.drop fr)= .nd j k2 k3:=by rw[um,hLk];exact hD
  rw[Ib,rowOf]at hD';injection hD' with hj3 RA hk3;simp only at hj3 RA;subst hj3;subst RA;obtain⟨L3,hL3,bY⟩:=hkk.list
  have Ia:L3.length<=2000:=by
   have h1:=qj L3;rw[hL3]at h1;have h2:=sj (DN (L:=L) (x:=L[fr]) (List.getElem_mem hfl));rw[hx3,hLk]at h2;have:=HK.out.2.2;simp only at h2;omega
  have RB:rowOf (L.take fr++L3++L.drop (fr+1))=iA fr ks:=by
   unfold iA;rw[<-hLk,<-um,Ib,rowOf,ug,yL,<-AQ,List.append_assoc,ul,ul,hL3]
  have HL:Hid (L.length=n1/\fr<L.length/\L.length<=2000/\L3.length<=2000/\rowOf (L.take fr++L3++L.drop (fr+1))=iA fr ks/\(ai (iA fr ks)).length+1=(ai ks).length):=⟨hLn,hfl,Rz,Ia,RB,hsz⟩;have D8:Hid (bU W A (.slice (some ⟨b1,o1,none⟩) n1 kc) L/\bU W A (.slice xa n3 xc) L3):=⟨hTL,bY⟩;have hcap:n1<=kc:=by obtain⟨_,_,h1,h2⟩:=hTL.form;injection h1 with _ _ h3;omega
  have hfu:fr<n1:=by omega
  have hfr:fr<=2000:=by omega
  have i0:(0:Int)<=(fr:Int):=Int.natCast_nonneg _;have i1:(fr:Int)<(n1:Int):=by omega
  have hwr:IntKind.i64.wrap ((fr:Int)+1)=(fr:Int)+1:=IntWalk.i64_in _ (by omega)
  have HIx:Hid (∀wq,Below W.heap.size W wq->Calls Tryz.prog 152 #[.slice ca I.length cc,.int .i64 (q3:Int)] wq fun e w'=>e= .returned (.int .i64 (f q3:Int))/\w'=wq):=fun wq hq'=>by
   have hb:Below w0.heap.size w0 wq:=HM.out.2.2.trans (hq'.mono HM.out.2.2.size);have h1:=own_below hO hb fun g hg=>(hO.lt g hg).2;rw[Rn]at h1;have h2:=Li (Z:=I.map fun(n:Nat)=>(n:Int)) (by rw[List.length_map];exact h1);refine Rm h2 (by rw[List.length_map];omega) (by rw[List.length_map];exact hAt.1) (by rw[getD_map,hAt.2.1]) fun j hj=> ?_;rw[getD_map];have:=hAt.2.2 j hj;omega
  clear hD hj hush hAt vM Ry hhd hsz hLk hTL hLn hfl Rz Ib hkk hx3 jv hk3 bY hL3 Ia RB hn1
  go_enter Tryz.func148,Tryz.ntmps148
  go_upto_region 4 with fail
  obtain⟨wc,hwc⟩:∃V,W.alloc (.cells #[.int .i64 (q3:Int),.slice xa n3 xc] 73)=V:=⟨_,rfl⟩;have hBx:Below W.heap.size W wc:=by rw[<-hwc];exact(Below.refl _ _).alloc (Nat.le_refl _) _
  have hcb:=heap_alloc_new W (.cells #[.int .i64 (q3:Int),.slice xa n3 xc] 73);obtain⟨p,hp⟩:∃x,W.heap.size=x:=⟨_,rfl⟩;rw[hwc,hp]at hcb;rw[hwc];rw[hp];have c0:wc.cell? ⟨p,0,none⟩=some (.int .i64 (q3:Int)):=ah (i:=0) hcb rfl;have c1:wc.cell? ⟨p,1,none⟩=some (.slice xa n3 xc):=ah (i:=1) hcb rfl;obtain⟨Wd,hWd⟩:∃V,wc.drew=V:=⟨_,rfl⟩;have jw:Below wc.heap.size wc Wd:=by rw[<-hWd];exact(Below.refl _ _).drew
  have hW2:Below W.heap.size W Wd:=hBx.trans (jw.mono hBx.size)
  have aO:Hid (∀wq,Below Wd.heap.size Wd wq->(sI w.heap.size T N o q b c ra rl rc (.slice ca I.length cc) fr q (.slice (some ⟨b1,o1,none⟩) n1 kc) wq/\wq.cell? ⟨p,0,none⟩=some (.int .i64 (q3:Int))/\wq.cell? ⟨p,1,none⟩=some (.slice xa n3 xc))/\Below W.heap.size W wq):=fun wq hq=>by
   have h1:Below W.heap.size W wq:=hW2.trans (hq.mono hW2.size);have h2:Below wc.heap.size wc wq:=jw.trans (hq.mono jw.size);exact⟨⟨(HS.out wq h1).1,(h2.cell (World.block_lt_of_cell? _ _ c0)).trans c0,(h2.cell (World.block_lt_of_cell? _ _ c1)).trans c1⟩,h1⟩
  have S0:=(aO.out Wd (Below.refl _ _)).1;obtain⟨nn,hnn⟩:∃nn,n1=(fr+1)+nn:=⟨n1-(fr+1),by omega⟩;have AR:=fun w=>DV (la:=some ⟨b1,o1,none⟩) (f:=fr) (sl:=n1) (lc:=kc) (fi:=(fr:Int)) rfl (by omega) w;obtain⟨A4,hfro,o9⟩:=DU (la:=some ⟨b1,o1,none⟩) (f:=fr+1) (n:=nn) (sl:=n1) (lc:=kc) (fi:=(fr:Int)+1) (by omega) hnn;have yV:Hid (kc≠fr+1->A4=(some (⟨b1,o1,none⟩:Addr)).map (·.add ((fr+1)*2))):=o9;have uD:Hid (n1=(fr+1)+nn):=hnn;have HW2:Hid (W.heap.size<=Wd.heap.size):=hW2.size;clear jw hW2 hBx c0 c1 hp o9 hnn hcb hwc x0 x1 x2 x3 x4 x5 x6 x7 x8 x9 x10 d1 d2 hW;refine iw [0,1,2,3,4,5,6,7,8,9,10,11,12] 3 15 (fun wq=>sI w.heap.size T N o q b c ra rl rc (.slice ca I.length cc) fr q (.slice (some ⟨b1,o1,none⟩) n1 kc) wq/\wq.cell? ⟨p,0,none⟩=some (.int .i64 (q3:Int))/\wq.cell? ⟨p,1,none⟩=some (.slice xa n3 xc)) (by kernel_rfl) (by kernel_rfl) (by rw[hWd];exact S0) ?_;rw[hWd];clear hWd S0
  iterate 13
   refine aU.gN (v:= ?_) rfl (by rfl) ?_ ?_;rotate_left
   ·intro w' hSw
    obtain⟨⟨z0,z1,z2,z3,z4,z5,z6,z7,z8,z9,jK⟩,H8,z12⟩:=hSw
    go_simp
    try with_reducible rfl
   simp only[Act.put,List.setIfInBounds_toArray,List.set_cons_zero,List.set_cons_succ]
  rw[aU];have dh:Below Wd.heap.size Wd (Wd.alloc (.cells #[.slice (some ⟨b1,o1,none⟩) fr kc,.slice xa n3 xc,.slice A4 nn (kc-(fr+1))] 71)):=(Below.refl _ _).alloc (Nat.le_refl _) _;refine ax.one (i:=13) (by kernel_rfl) ⟨_,rfl,fun K hK=> ?_⟩
  go_simp
  refine hK.out _ _ (fun _=>(aO.out _ dh).1) ?_;clear hK;have dK:=heap_alloc_new Wd (.cells #[.slice (some ⟨b1,o1,none⟩) fr kc,.slice xa n3 xc,.slice A4 nn (kc-(fr+1))] 71);obtain⟨p7,sH⟩:∃x,Wd.heap.size=x:=⟨_,rfl⟩;obtain⟨w7,hw7⟩:∃V,Wd.alloc (.cells #[.slice (some ⟨b1,o1,none⟩) fr kc,.slice xa n3 xc,.slice A4 nn (kc-(fr+1))] 71)=V:=⟨_,rfl⟩;rw[hw7]at dh dK⊢;rw[sH]at dK⊢;clear hw7;have D9:=(aO.out w7 dh).2
  have RD:=Hy (w:=w7) (pb:=p7) (A:=A) (La:=L.take fr) (Lb:=L3) (Lc:=L.drop (fr+1)) (ah (i:=0) dK rfl) (ah (i:=1) dK rfl) (ah (i:=2) dK rfl)
   (by
     have h0:bU w7 A (.slice (some ⟨b1,o1,none⟩) L.length kc) L:=by rw[HL.out.1];exact D8.out.1.below D9
     exact h0.take (by have:=HL.out.2.1;omega))
   (D8.out.2.below D9)
   (by
     have h0:bU w7 A (.slice (some ⟨b1,o1,none⟩) L.length kc) L:=by rw[HL.out.1];exact D8.out.1.below D9
     exact h0.drop (by rw[HL.out.1];exact uD.out) yV.out)
   (by have:=HL.out.2.2.1;have:=HL.out.2.2.2.1;simp only[List.length_take,List.length_drop];omega)
  clear dK sH hfro AR hwr;refine ax.one (i:=14) (by kernel_rfl) ⟨_,rfl,fun K hK=> ?_⟩
  go_simp
  refine RD.mono ?_;rintro e w8 ⟨a8,n8,d8,rfl,mX,gW⟩;dsimp only;have gX:Below Wd.heap.size Wd w8:=dh.trans (gW.mono dh.size);refine hK.out _ _ (fun _=>(aO.out _ gX).1) ?_;clear hK RD;refine ax.last (i:=15) (by kernel_rfl) ⟨_,rfl,fun K hK=> ?_⟩
  go_simp
  refine hK.out _ _ (fun h=>absurd h (by omega)) (NoPanic.normal ?_);clear hK
  have ql:Hid (aG w8 (fun b=>(A b\/W.heap.size<=b)/\b<w8.heap.size) (.slice a8 n8 d8) (iA fr ks)):=by
   have h1:=mX.fo;rw[HL.out.2.2.2.2.1]at h1;exact h1.kept fun x hx hlt=>⟨rfl,hx.imp id fun h=>Nat.le_trans D9.size h,hlt⟩
  have xA:Hid (Below Wd.heap.size Wd w8):=gX;clear mX gW gX dh D9
  go_upto_region 5 with fail
  obtain⟨We,Ic⟩:∃V,w8.drew=V:=⟨_,rfl⟩;have Me:Below w8.heap.size w8 We:=by rw[<-Ic];exact(Below.refl _ _).drew
  have xB:Hid (∀wq,Below We.heap.size We wq->(sI w.heap.size T N o q b c ra rl rc (.slice ca I.length cc) fr q (.slice (some ⟨b1,o1,none⟩) n1 kc) wq/\wq.cell? ⟨p,0,none⟩=some (.int .i64 (q3:Int))/\wq.cell? ⟨p,1,none⟩=some (.slice xa n3 xc))/\Below W.heap.size W wq/\Below w8.heap.size w8 wq):=fun wq hq=>by
   have h1:Below w8.heap.size w8 wq:=Me.trans (hq.mono Me.size);have h2:=aO.out wq (xA.out.trans (h1.mono xA.out.size));exact⟨h2.1,h2.2,h1⟩
  have S0:=(xB.out We (Below.refl _ _)).1;have ix:=HIx.out We (xB.out We (Below.refl _ _)).2.1;clear Me;refine iw [0,1,2,3,4,5,6,7,10,11,12] 5 15 (fun wq=>sI w.heap.size T N o q b c ra rl rc (.slice ca I.length cc) fr q (.slice (some ⟨b1,o1,none⟩) n1 kc) wq/\wq.cell? ⟨p,0,none⟩=some (.int .i64 (q3:Int))/\wq.cell? ⟨p,1,none⟩=some (.slice xa n3 xc)) (by kernel_rfl) (by kernel_rfl) (by rw[Ic];exact S0) ?_;rw[Ic];clear Ic S0
  iterate 11
   refine aU.gN (v:= ?_) rfl (by rfl) ?_ ?_;rotate_left
   ·intro w' hSw
    obtain⟨⟨z0,z1,z2,z3,z4,z5,z6,z7,z8,z9,jK⟩,H8,z12⟩:=hSw
    go_simp
    try with_reducible rfl
   simp only[Act.put,List.setIfInBounds_toArray,List.set_cons_zero,List.set_cons_succ]
  rw[aU];refine ax.one (i:=8) (by kernel_rfl) ⟨_,rfl,fun K hK=> ?_⟩
  go_simp
  refine ix.mono ?_;rintro e w9 ⟨rfl,h9⟩;obtain rfl:We=w9:=h9.symm;dsimp only;refine hK.out _ _ (fun _=>(xB.out We (Below.refl _ _)).1) ?_;clear hK ix;refine ax.read (i:=9) (v:= .int .i64 ((q:Int)+(f q3:Int))) rfl (by kernel_rfl) (by rfl) (fun w' _=>by unfold execOp;go_simp) (xB.out We (Below.refl _ _)).1 ?_;simp only[Act.put,List.setIfInBounds_toArray,List.set_cons_zero,List.set_cons_succ];have Ea:=(xB.out We (Below.refl _ _)).2;have ea:=rA.out We (fun b=>(A b\/W.heap.size<=b)/\b<w8.heap.size) (.slice a8 n8 d8) (iA fr ks) Ea.1 (ql.out.below Ea.2) (fun b hb=>Nat.lt_of_lt_of_le hb.2 Ea.2.size) (by have:=HL.out.2.2.2.2.2;omega) (Z9 HK.out.2.1);refine ax.one (i:=13) (by kernel_rfl) ⟨_,rfl,fun K hK=> ?_⟩
  go_simp
  refine ea.mono ?_;rintro e uG ⟨rv,L',rfl,bY,hG3,hB3⟩;obtain⟨la,lc,hlv⟩:=aY bY.own;subst hlv;obtain⟨n4,jy⟩:∃n,L'.length=n:=⟨_,rfl⟩;rw[jy]at bY⊢;dsimp only;have hW3:=(xB.out uG hB3).2.1;refine hK.out _ _ (fun _=>(xB.out uG hB3).1) ?_;clear hK ea;have hres:=(HS.out uG hW3).2;have y0:uG.cell? ⟨w.heap.size+1+1,0,none⟩=some (.int .i64 0):=ah hres rfl;have y1:uG.cell? ⟨w.heap.size+1+1,1,none⟩=some (.slice none 0 0):=ah hres rfl;have eB:uG.frozen? ⟨w.heap.size+1+1,0,none⟩=false:=bE hres;have eD:uG.frozen? ⟨w.heap.size+1+1,1,none⟩=false:=bE hres;have q0:=kW (v0:= .int .i64 ((q:Int)+(f q3:Int))) (v1:= .slice la n4 lc) hres;have q1:=kX (v0:= .int .i64 ((q:Int)+(f q3:Int))) (v1:= .slice la n4 lc) hres;refine ax.one (i:=14) (by kernel_rfl) ⟨_,rfl,fun K hK=> ?_⟩
  go_simp
  refine hK.out _ _ (fun _=>(xB.out uG hB3).1) ?_;clear hK
  have HT:Hid (aG uG (fun b=>A b\/W.heap.size<=b) (.slice la n4 lc) (cB q fr sh aC rk (iA fr ks))/\Below W.heap.size W uG):=by
   refine⟨?_,hW3⟩;have h1:=bY.kU.fo;rw[hG3]at h1;refine h1.kept fun x hx _=>⟨rfl,?_⟩;rcases hx with hx|hx
   ·exact hx.1
   ·exact .inr (Nat.le_trans Ea.1.size hx)
  clear bY hG3 hB3 jy hres hW3 Ea;refine ax.last (i:=15) (by kernel_rfl) ⟨_,rfl,fun K hK=> ?_⟩
  go_simp
  refine hK.out _ _ (fun h=>absurd h (by omega)) (NoPanic.normal ?_);clear hK
  go_wp2_with fail
  refine bodyPost_ret (v:= .agg #[.int .i64 ((q:Int)+(f q3:Int)),.slice la n4 lc]) (by simp[results,Tryz.results148,go_sem,q0,q1]) rfl ?_;have hz:=HM.out.2.1;exact⟨_,rfl,HT.out.1.rz HA.out hz _ _,((HM.out.1.trans (HT.out.2.mono HM.out.1.size)).setCell (by simp;omega) _).setCell (by simp;omega) _⟩
 ·have hne:((q:Int)==(ka:Int))=false:=by simp;omega
  rw[if_neg eF,if_neg eF]
  go_enter Tryz.func148,Tryz.ntmps148
  go_upto_region 2 with fail
  obtain⟨Wd,hWd⟩:∃V,W.drew=V:=⟨_,rfl⟩;have hBd:Below W.heap.size W Wd:=by rw[<-hWd];exact(Below.refl _ _).drew
  have S0:=(HS.out Wd hBd).1;have nf:=Z7 (w:=Wd) (T:=T) (N:=N) (o:=o) (b:=b) (c:=c) (at':=(fr:Int)) (ra:=ra) (ca:=ca) (rl:=rl) (rc:=rc) (nI:=I.length) (cc:=cc) (ka:=ka) (q:=q) eF HQ.out.1 uz;rw[<-HQ.out.2.1 eF]at nf;have eP:Hid (Below W.heap.size W Wd):=hBd;clear hBd x0 x1 x2 x3 x4 x5 x6 x7 x8 x9 x10 hW;refine iw [0,1,2,4,5,6,7] 4 10 (sI w.heap.size T N o ka b c ra rl rc (.slice ca I.length cc) fr q (.slice aW n1 kc)) (by kernel_rfl) (by kernel_rfl) (by rw[hWd];exact S0) ?_;rw[hWd];clear hWd S0
  iterate 7
   refine aU.gN (v:= ?_) rfl (by rfl) ?_ ?_;rotate_left
   ·intro w' hSw
    obtain⟨z0,z1,z2,z3,z4,z5,z6,z7,z8,z9,jK⟩:=hSw
    go_simp
    try with_reducible rfl
   simp only[Act.put,List.setIfInBounds_toArray,List.set_cons_zero,List.set_cons_succ]
  rw[aU];refine ax.one (i:=3) (by kernel_rfl) ⟨_,rfl,fun K hK=> ?_⟩
  go_simp
  refine nf.mono ?_;rintro e w2 ⟨rfl,hB2⟩;dsimp only;have hW2:Below W.heap.size W w2:=eP.out.trans (hB2.mono eP.out.size);refine hK.out _ _ (fun _=>(HS.out w2 hW2).1) ?_;clear hK nf;have ea:=rA.out w2 A (.slice aW n1 kc) ks hW2 (HK.out.1.below hW2) (fun b hb=>Nat.lt_of_lt_of_le (HA.out b hb) (Nat.le_trans HM.out.1.size hW2.size)) (Nat.le_refl _) HK.out.2.1;refine ax.one (i:=8) (by kernel_rfl) ⟨_,rfl,fun K hK=> ?_⟩
  go_simp
  refine ea.mono ?_;rintro e w3 ⟨rv,L',rfl,bY,hG3,hB3⟩;obtain⟨la,lc,hlv⟩:=aY bY.own;subst hlv;obtain⟨n3,jv⟩:∃n,L'.length=n:=⟨_,rfl⟩;rw[jv]at bY⊢;dsimp only;have hW3:Below W.heap.size W w3:=hW2.trans (hB3.mono hW2.size);refine hK.out _ _ (fun _=>(HS.out w3 hW3).1) ?_;clear hK ea;have hres:=(HS.out w3 hW3).2;have y0:w3.cell? ⟨w.heap.size+1+1,0,none⟩=some (.int .i64 0):=ah hres rfl;have y1:w3.cell? ⟨w.heap.size+1+1,1,none⟩=some (.slice none 0 0):=ah hres rfl;have eB:w3.frozen? ⟨w.heap.size+1+1,0,none⟩=false:=bE hres;have eD:w3.frozen? ⟨w.heap.size+1+1,1,none⟩=false:=bE hres;have q0:=kW (v0:= .int .i64 ((sh q:Nat):Int)) (v1:= .slice la n3 lc) hres;have q1:=kX (v0:= .int .i64 ((sh q:Nat):Int)) (v1:= .slice la n3 lc) hres;refine ax.one (i:=9) (by kernel_rfl) ⟨_,rfl,fun K hK=> ?_⟩
  go_simp
  refine hK.out _ _ (fun _=>(HS.out w3 hW3).1) ?_;clear hK
  have HT:Hid (aG w3 (fun b=>A b\/W.heap.size<=b) (.slice la n3 lc) (cB ka fr sh aC rk ks)/\Below W.heap.size W w3):=by
   refine⟨?_,hW3⟩;have h1:=bY.kU.fo;rw[hG3]at h1;exact h1.kept fun x hx _=>⟨rfl,hx.imp id fun h=>Nat.le_trans hW2.size h⟩
  clear bY hG3 hB3 jv hres hW3 hW2 hB2;refine ax.last (i:=10) (by kernel_rfl) ⟨_,rfl,fun K hK=> ?_⟩
  go_simp
  refine hK.out _ _ (fun h=>absurd h (by omega)) (NoPanic.normal ?_);clear hK
  go_wp2_with fail
  refine bodyPost_ret (v:= .agg #[.int .i64 ((sh q:Nat):Int),.slice la n3 lc]) (by simp[results,Tryz.results148,go_sem,q0,q1]) rfl ?_;have hz:=HM.out.2.1;exact⟨_,rfl,HT.out.1.rz HA.out hz _ _,((HM.out.1.trans (HT.out.2.mono HM.out.1.size)).setCell (by simp;omega) _).setCell (by simp;omega) _⟩
end
def Ie(R:List Ru)(I:List Nat)(aC:Nat->Nat)(isIn:Nat->Option Nat)(m:Nat->Nat)(ka fr:Nat)(q:Nat)(ks:Fo):Prop:=
 q<=100000/\(isIn q=none->(q<ka\/ka+I.length<=q)/\(q<ka\/I.length<=q+1)/\aC q=(if q<ka then q else q+1-I.length))/\(∀j,isIn q=some j->ka<=q/\q-ka<I.length/\I.getD (q-ka) 0=j/\fr+m j<=aS ks/\j<R.length/\m j=(aB (R.getD j (0,[])).2).length)
section
variable{w0:World}{B:Nat}{ov:Value}{R:List Ru}{I:List Nat}{aC:Nat->Nat}{isIn:Nat->Option Nat}{m:Nat->Nat}{T N o b c:Int}{ra:Option Addr}{rc fr ka:Nat}
theorem aaf(uz:I.length<=100000)(hka:ka<=100000)(hO:w0.ownsRow B 3 1 ov I.length (iI I))(hR:aD w0 w0.heap.size (.slice ra R.length rc) R)(Mf:∀q,(R.getD q (0,[])).2.length<=1000):∀(n:Nat) (w:World) (q:Nat) (ks:Fo) (kv:Value) (A:Nat->Prop),(ai ks).length<n->Below w0.heap.size w0 w->Ie R I aC isIn m ka fr q ks->kY (Ie R I aC isIn m ka fr) ks->(ai ks).length<=2000->aG w A kv ks->(∀b,A b->b<w.heap.size)->
 Calls Tryz.prog 147 #[.agg #[.int .i64 T,.int .i64 N,.slice ra R.length rc,.int .i64 o,.int .i64 (ka:Int),.int .i64 b,.int .i64 c,ov,.int .i64 (fr:Int)],.agg #[.int .i64 (q:Int),kv]] w fun e w'=> ∃kv',e= .returned (.agg #[.int .i64 ((if (isIn q).isSome then ka else aC q:Nat):Int),kv'])/\aG w' (fun b=>A b\/w.heap.size<=b) kv' (if (isIn q).isSome then mU fr (m ((isIn q).getD 0)) ((isIn q).getD 0) (dJ ka fr aC isIn m ks) else dJ ka fr aC isIn m ks)/\Below w.heap.size w w':=by
 obtain⟨ca,cc,hov⟩:=aY hO;subst hov;intro n
 induction n with
 |zero=>intro _ _ _ _ _ h;omega
 |succ n ih=>
 intro w q ks kv A hn hb0 uF hall hl hk hA;have hk1:=hk;obtain⟨aW,kc,hkv,_⟩:=hk1;obtain⟨n1,hn1⟩:∃n,aS ks=n:=⟨_,rfl⟩;rw[hn1]at hkv;subst hkv;obtain⟨W,hW⟩:∃W,((w.alloc (.cells #[.int .i64 T,.int .i64 N,.slice ra R.length rc,.int .i64 o,.int .i64 (ka:Int),.int .i64 b,.int .i64 c,.slice ca I.length cc,.int .i64 (fr:Int)] 113)).alloc (.cells #[.int .i64 (q:Int),.slice aW n1 kc] 73)).alloc (.cells #[.int .i64 0,.slice none 0 0] 73)=W:=⟨_,rfl⟩;have hM:=oh hW
 have HS:Hid (∀wq,Below W.heap.size W wq->sI w.heap.size T N o ka b c ra R.length rc (.slice ca I.length cc) fr q (.slice aW n1 kc) wq/\wq.heap[w.heap.size+1+1]?=some (.cells #[.int .i64 0,.slice none 0 0] 73 (0,0))):=fun wq h1=>by
  have hc:=(h1.block _ (by have:=hM.size;omega)).trans hM.fG;have ht:=(h1.block _ (by have:=hM.size;omega)).trans hM.gV;exact⟨⟨ah hc rfl,ah hc rfl,ah hc rfl,ah hc rfl,ah hc rfl,ah hc rfl,ah hc rfl,ah hc rfl,ah hc rfl,ah ht rfl,ah ht rfl⟩,(h1.block _ (by have:=hM.size;omega)).trans hM.res⟩
 obtain⟨x0,x1,x2,x3,x4,x5,x6,x7,x8,x9,x10⟩:=(HS.out W (Below.refl _ _)).1
 have ea:=AY (w:=W) (A:=A) (v:= .slice aW n1 kc) (recv:= .agg #[.int .i64 T,.int .i64 N,.slice ra R.length rc,.int .i64 o,.int .i64 (ka:Int),.int .i64 b,.int .i64 c,.slice ca I.length cc,.int .i64 (fr:Int)]) (dn:=147) (F:=fun q ks=>(if (isIn q).isSome then ka else aC q,if (isIn q).isSome then mU fr (m ((isIn q).getD 0)) ((isIn q).getD 0) (dJ ka fr aC isIn m ks) else dJ ka fr aC isIn m ks)) (G:=dJ ka fr aC isIn m) (fun args w'=>by simp[callFunc,Tryz.func147,Tryz.f147 ]) rfl (fun _ _ _=>rfl) (hk.below hM.below) (fun b hb=>Nat.lt_of_lt_of_le (hA b hb) hM.below.size) (by omega) fun w' q' ks' kv' hm hb' hk' hA'=>by
  have:=sj hm;have h2:=DW hall hm;exact ih w' q' ks' kv' A (by omega) (hb0.trans ((hM.below.trans (hb'.mono hM.below.size)).mono hb0.size)) h2.1 h2.2 (by omega) hk' hA'
 have HM:Hid (Below w.heap.size w W/\w.heap.size+3<=W.heap.size/\Below w0.heap.size w0 W):=⟨hM.below,by have:=hM.size;omega,hb0.trans (hM.below.mono hb0.size)⟩;have HA:Hid (∀b,A b->b<w.heap.size):=hA;have HK:Hid (aS (dJ ka fr aC isIn m ks)=n1/\n1<=2000):=⟨(Dp ka fr aC isIn m ks).trans hn1,by obtain⟨L,hL,_⟩:=hk.list;have:=qj L;rw[hL]at this;have h3:=nK L;rw[hL]at h3;omega⟩;have HQ:Hid (Ie R I aC isIn m ka fr q ks):=uF;have hq1:=uF.1;have hwr:IntKind.i64.wrap ((q:Int)-(ka:Int))=(q:Int)-(ka:Int):=IntWalk.i64_in _ (by omega);clear ih hn hall hl hk hA hM hn1 hb0 uF;cases hin:isIn q with
 |some j=>
  obtain⟨hkq,hlt,hIj,hfm,RF,Ig⟩:=HQ.out.2.2 j hin;obtain⟨kq,RG⟩:∃x,q-ka=x:=⟨_,rfl⟩;rw[RG]at hlt hIj;have hwr2:IntKind.i64.wrap ((q:Int)-(ka:Int))=(kq:Int):=by rw[hwr];omega
  have hbel:(decide (0<=(kq:Int))&&decide ((kq:Int)<(I.length:Int)))=true:=by
   rw[Bool.and_eq_true];exact⟨decide_eq_true (by omega),decide_eq_true (by omega)⟩
  clear hwr;obtain⟨g,cap,hov,hBg,hgl⟩:=hO.form (by omega);injection hov with aag _ aah;subst aag;clear aah
  have hgc:w0.cell? ⟨g,kq,none⟩=some (.int .i64 (j:Int)):=by
   rw[hO.cellAt kq (by omega)];simp[iI,hlt,<-hIj]
  obtain⟨b0,o0,nX,qa,qc,hv,_,k1,k2,hsy⟩:=hR.jF RF;injection hv with hv1 _ hv3;subst hv1;clear hv3;have hsl:=Mf j;obtain⟨l,hll⟩:∃l,(R.getD j (0,[])).2=l:=⟨_,rfl⟩;rw[hll]at k2 hsy hsl Ig;obtain⟨mj,Mg⟩:∃x,m j=x:=⟨_,rfl⟩;rw[Mg]at hfm Ig;obtain⟨up,hup⟩:∃x,fr+mj=x:=⟨_,rfl⟩;rw[hup]at hfm;have hfu:up<=n1:=by have:=HK.out.1;rw[Dp]at this;omega
  have hn2:=HK.out.2;have afG:IntKind.i64.wrap ((fr:Int)+((aB l).length:Int))=(up:Int):=by rw[<-Ig,IntWalk.i64_in _ (by omega)];omega
  have A7:Hid (fr+mj=up):=hup
  have HC:Hid (∀wq,Below W.heap.size W wq->wq.cell? ⟨g,kq,none⟩=some (.int .i64 (j:Int))/\wq.cell? ⟨b0,o0+j*2+1,none⟩=some (.slice qa l.length qc)/\bK wq (.slice qa l.length qc) l):=fun wq hq=>by
   have hb:Below w0.heap.size w0 wq:=HM.out.2.2.trans (hq.mono HM.out.2.2.size);exact⟨(hb.cell hgl).trans hgc,(hb.cell (World.block_lt_of_cell? _ _ k2)).trans k2,hsy.same (iT hb)⟩
  have i0:(0:Int)<=(kq:Int):=Int.natCast_nonneg _;have i1:(kq:Int)<(I.length:Int):=by omega
  have j0:(0:Int)<=(j:Int):=Int.natCast_nonneg _;have j1:(j:Int)<(R.length:Int):=by omega
  rw[if_pos (by rfl),if_pos (by rfl)];simp only[Option.getD_some];rw[Mg];clear hkq hlt hIj hfm RF RG hgc k1 k2 hsy hll Mg hup hBg hgl Ig
  go_enter Tryz.func147,Tryz.ntmps147
  go_upto_region 6 with
   (first
    |(go_at_call 141;refine ea.mono ?_;rintro e w2 ⟨rv,L',rfl,bP,hG2,hB2⟩
      obtain⟨la,lc,hlv⟩:=aY bP.own;subst hlv;obtain⟨z0,z1,z2,z3,z4,z5,z6,z7,z8,z9,jK⟩:=(HS.out w2 hB2).1;have d1:=(HC.out w2 hB2).1;have HT:Hid (gu w2 W.heap.size A (.slice la L'.length lc) L'/\rowOf L'=dJ ka fr aC isIn m ks/\Below W.heap.size W w2):=⟨bP,hG2,hB2⟩;have hLn:L'.length=n1:=by rw[<-HK.out.1,<-hG2,nK]
      rw[hLn];rw[hLn]at HT;have ib:=qV (w:=w2) (n:=(kq:Int)) (m:=(I.length:Int));rw[hbel]at ib
      clear ea bP hG2 hB2 x0 x1 x2 x3 x4 x5 x6 x7 x8 x9 x10 hW hbel)
    |(go_at_call 42;refine ib.mono ?_;rintro e w3 ⟨rfl,h3⟩;obtain rfl:w2=w3:=h3.symm;clear ib))
  have hcap:n1<=lc:=by
   rcases HT.out.1.own.2 with⟨h0,h00⟩|⟨g,cap,cur,hg,_,_,hle,_⟩
   ·injection h0 with _ h1 h2;omega
   ·injection hg with _ _ hg3;omega
  obtain⟨A3,hmid,hmid'⟩:=Rp (la:=la) (f:=fr) (n:=mj) (g:=up) (sl:=n1) (lc:=lc) (fi:=(fr:Int)) (gi:=(up:Int)) rfl rfl A7.out.symm (by omega);have Mc:Hid (lc≠fr->A3=la.map (·.add (fr*2))):=hmid';clear hmid' z0 z1 z2 z3 z4 z5 z6 z7 z8 z9 jK d1;obtain⟨Wf,hWf⟩:∃V,w2.drew=V:=⟨_,rfl⟩;have Ih:Below w2.heap.size w2 Wf:=by rw[<-hWf];exact(Below.refl _ _).drew
  have Eb:Hid (∀wq,Below Wf.heap.size Wf wq->(sI w.heap.size T N o ka b c (some ⟨b0,o0,none⟩) R.length rc (.slice (some ⟨g,0,none⟩) I.length cc) fr q (.slice aW n1 kc) wq/\wq.cell? ⟨b0,o0+j*2+1,none⟩=some (.slice qa l.length qc))/\Below w2.heap.size w2 wq):=fun wq hq=>by
   have h1:Below w2.heap.size w2 wq:=Ih.trans (hq.mono Ih.size);have h2:Below W.heap.size W wq:=HT.out.2.2.trans (h1.mono HT.out.2.2.size);exact⟨⟨(HS.out wq h2).1,(HC.out wq h2).2.1⟩,h1⟩
  have S0:=(Eb.out Wf (Below.refl _ _)).1;have na:=Gf (w:=Wf) (HC.out Wf (HT.out.2.2.trans (Ih.mono HT.out.2.2.size))).2.2 hsl;clear Ih;refine iw [0,1,2,3,4,5,6,7,8,9] 3 12 (fun wq=>sI w.heap.size T N o ka b c (some ⟨b0,o0,none⟩) R.length rc (.slice (some ⟨g,0,none⟩) I.length cc) fr q (.slice aW n1 kc) wq/\wq.cell? ⟨b0,o0+j*2+1,none⟩=some (.slice qa l.length qc)) (by kernel_rfl) (by kernel_rfl) (by rw[hWf];exact S0) ?_;rw[hWf];clear hWf S0
  iterate 10
   refine aU.gN (v:= ?_) rfl (by rfl) ?_ ?_;rotate_left
   ·intro w' hSw
    obtain⟨⟨z0,z1,z2,z3,z4,z5,z6,z7,z8,z9,jK⟩,H8⟩:=hSw
    go_simp
    try with_reducible rfl
   simp only[Act.put,List.setIfInBounds_toArray,List.set_cons_zero,List.set_cons_succ]
  rw[aU];refine ax.one (i:=10) (by kernel_rfl) ⟨_,rfl,fun K hK=> ?_⟩
  go_simp
  refine na.mono ?_;rintro e w3 ⟨rfl,hB3⟩;dsimp only;refine hK.out _ _ (fun _=>(Eb.out w3 hB3).1) ?_;clear hK na;refine ax.one (i:=11) (by kernel_rfl) ⟨_,rfl,fun K hK=> ?_⟩
  go_simp
  refine hK.out _ _ (fun _=>(Eb.out w3 hB3).1) ?_;clear hK;refine ax.last (i:=12) (by kernel_rfl) ⟨_,rfl,fun K hK=> ?_⟩
  go_simp
  refine hK.out _ _ (fun h=>absurd h (by omega)) (NoPanic.normal ?_);clear hK;obtain⟨⟨z0,z1,z2,z3,z4,z5,z6,z7,z8,z9,jK⟩,_⟩:=(Eb.out w3 hB3).1;have qh:=(Eb.out w3 hB3).2;clear hB3
  go_upto_region 8 with fail
  obtain⟨wc,hwc⟩:∃V,w3.alloc (.cells #[.int .i64 (j:Int),.slice A3 mj (lc-fr)] 73)=V:=⟨_,rfl⟩;have hBx:Below w2.heap.size w2 wc:=by rw[<-hwc];exact qh.alloc qh.size _
  have hcb:=heap_alloc_new w3 (.cells #[.int .i64 (j:Int),.slice A3 mj (lc-fr)] 73);obtain⟨p,hp⟩:∃x,w3.heap.size=x:=⟨_,rfl⟩;rw[hwc,hp]at hcb;rw[hwc];rw[hp];have c0:wc.cell? ⟨p,0,none⟩=some (.int .i64 (j:Int)):=ah (i:=0) hcb rfl;have c1:wc.cell? ⟨p,1,none⟩=some (.slice A3 mj (lc-fr)):=ah (i:=1) hcb rfl;clear z0 z1 z2 z3 z4 z5 z6 z7 z8 z9 jK qh hwc;obtain⟨Wd,hWd⟩:∃V,wc.drew=V:=⟨_,rfl⟩;have hBd:Below w2.heap.size w2 Wd:=by rw[<-hWd];exact hBx.drew
  have jw:Below wc.heap.size wc Wd:=by rw[<-hWd];exact(Below.refl _ _).drew
  have hW2:Below W.heap.size W Wd:=HT.out.2.2.trans (hBd.mono HT.out.2.2.size)
  have aO:Hid (∀wq,Below Wd.heap.size Wd wq->(sI w.heap.size T N o ka b c (some ⟨b0,o0,none⟩) R.length rc (.slice (some ⟨g,0,none⟩) I.length cc) fr q (.slice aW n1 kc) wq/\wq.cell? ⟨p,0,none⟩=some (.int .i64 (j:Int))/\wq.cell? ⟨p,1,none⟩=some (.slice A3 mj (lc-fr)))/\Below W.heap.size W wq/\bU wq (fun b=>A b\/W.heap.size<=b) (.slice la n1 lc) L'):=fun wq hq=>by
   have h1:Below W.heap.size W wq:=hW2.trans (hq.mono hW2.size);have h2:Below wc.heap.size wc wq:=jw.trans (hq.mono jw.size);exact⟨⟨(HS.out wq h1).1,(h2.cell (World.block_lt_of_cell? _ _ c0)).trans c0,(h2.cell (World.block_lt_of_cell? _ _ c1)).trans c1⟩,h1,HT.out.1.kU.below (hBd.trans (hq.mono hBd.size))⟩
  have S0:=(aO.out Wd (Below.refl _ _)).1;obtain⟨nn,hnn⟩:∃nn,n1=up+nn:=⟨n1-up,by omega⟩;have AR:=fun w=>DV (la:=la) (f:=fr) (sl:=n1) (lc:=lc) (fi:=(fr:Int)) rfl (by have:=A7.out;omega) w;obtain⟨A4,hfro,o9⟩:=DU (la:=la) (f:=up) (n:=nn) (sl:=n1) (lc:=lc) (fi:=(up:Int)) rfl hnn;have yV:Hid (lc≠up->A4=la.map (·.add (up*2))):=o9;have uD:Hid (n1=up+nn):=hnn;have HW2:Hid (W.heap.size<=Wd.heap.size):=hW2.size;clear hBd jw hW2 hBx c0 c1 hp o9 hnn hmid hcb;refine iw [0,1,2,3,4,5,6,7,8,10,11,12] 5 16 (fun wq=>sI w.heap.size T N o ka b c (some ⟨b0,o0,none⟩) R.length rc (.slice (some ⟨g,0,none⟩) I.length cc) fr q (.slice aW n1 kc) wq/\wq.cell? ⟨p,0,none⟩=some (.int .i64 (j:Int))/\wq.cell? ⟨p,1,none⟩=some (.slice A3 mj (lc-fr))) (by kernel_rfl) (by kernel_rfl) (by rw[hWd];exact S0) ?_;rw[hWd];clear hWd S0
  iterate 12
   refine aU.gN (v:= ?_) rfl (by rfl) ?_ ?_;rotate_left
   ·intro w' hSw
    obtain⟨⟨z0,z1,z2,z3,z4,z5,z6,z7,z8,z9,jK⟩,H8,z12⟩:=hSw
    go_simp
    try with_reducible rfl
   simp only[Act.put,List.setIfInBounds_toArray,List.set_cons_zero,List.set_cons_succ]
  rw[aU];have aK:Below Wd.heap.size Wd (Wd.alloc (.cells #[.int .i64 (j:Int),.slice A3 mj (lc-fr)] 73)):=(Below.refl _ _).alloc (Nat.le_refl _) _;refine ax.one (i:=9) (by kernel_rfl) ⟨_,rfl,fun K hK=> ?_⟩
  go_simp
  refine hK.out _ _ (fun _=>(aO.out _ aK).1) ?_;clear hK;have hb6:=heap_alloc_new Wd (.cells #[.int .i64 (j:Int),.slice A3 mj (lc-fr)] 73);obtain⟨p6,sD⟩:∃x,Wd.heap.size=x:=⟨_,rfl⟩;obtain⟨w6,uE⟩:∃V,Wd.alloc (.cells #[.int .i64 (j:Int),.slice A3 mj (lc-fr)] 73)=V:=⟨_,rfl⟩;have DX:W.heap.size<=p6:=by rw[<-sD];exact HW2.out
  rw[uE]at aK hb6⊢;rw[sD]at hb6⊢;clear uE;have bD:Below w6.heap.size w6 (w6.alloc (.cells #[.slice la fr lc,.slice (some ⟨p6,0,none⟩) 1 1,.slice A4 nn (lc-up)] 71)):=(Below.refl _ _).alloc (Nat.le_refl _) _;have dh:Below Wd.heap.size Wd (w6.alloc (.cells #[.slice la fr lc,.slice (some ⟨p6,0,none⟩) 1 1,.slice A4 nn (lc-up)] 71)):=aK.trans (bD.mono aK.size);refine ax.one (i:=13) (by kernel_rfl) ⟨_,rfl,fun K hK=> ?_⟩
  go_simp
  refine hK.out _ _ (fun _=>(aO.out _ dh).1) ?_;clear hK;have dK:=heap_alloc_new w6 (.cells #[.slice la fr lc,.slice (some ⟨p6,0,none⟩) 1 1,.slice A4 nn (lc-up)] 71);obtain⟨p7,sH⟩:∃x,w6.heap.size=x:=⟨_,rfl⟩;obtain⟨w7,hw7⟩:∃V,w6.alloc (.cells #[.slice la fr lc,.slice (some ⟨p6,0,none⟩) 1 1,.slice A4 nn (lc-up)] 71)=V:=⟨_,rfl⟩;rw[hw7]at bD dh dK⊢;rw[sH]at dK⊢;have DY:=(bD.block _ (Array.getElem?_eq_some_iff.1 hb6).1).trans hb6;clear hw7 hb6;have pq:=(aO.out w7 dh).2.2
  have cc:=Hy (w:=w7) (pb:=p7) (A:=fun b=>A b\/W.heap.size<=b) (La:=L'.take fr) (Lb:=[(.slice A3 mj (lc-fr),j,rowOf ((L'.drop fr).take mj))]) (Lc:=L'.drop up) (ah (i:=0) dK rfl) (ah (i:=1) dK rfl) (ah (i:=2) dK rfl)
   (by
     have h0:bU w7 (fun b=>A b\/W.heap.size<=b) (.slice la L'.length lc) L':=by rw[hLn];exact pq
     exact h0.take (by rw[hLn];have:=A7.out;omega))
   (by
     have h0:bU w7 (fun b=>A b\/W.heap.size<=b) (.slice la L'.length lc) L':=by rw[hLn];exact pq
     have h1:=h0.drop (f:=fr) (m:=n1-fr) (A:=A3) (by rw[hLn];have:=A7.out;omega) Mc.out;have hdl:(L'.drop fr).length=n1-fr:=by rw[List.length_drop,hLn]
     have h2:bU w7 (fun b=>A b\/W.heap.size<=b) (.slice A3 (L'.drop fr).length (lc-fr)) (L'.drop fr):=by rw[hdl];exact h1
     exact Hz DY (.inr DX) (h2.take (f:=mj) (by rw[hdl];have:=A7.out;omega)).fo)
   (by
     have h0:bU w7 (fun b=>A b\/W.heap.size<=b) (.slice la L'.length lc) L':=by rw[hLn];exact pq
     exact h0.drop (by rw[hLn];exact uD.out) yV.out)
   (by have:=HK.out.2;simp only[List.length_take,List.length_drop,List.length_cons,List.length_nil];omega)
  clear pq DY dK DX sH sD aK bD;refine ax.one (i:=14) (by kernel_rfl) ⟨_,rfl,fun K hK=> ?_⟩
  go_simp
  refine cc.mono ?_;rintro e w8 ⟨a8,n8,d8,rfl,mX,gW⟩;dsimp only;have gX:Below Wd.heap.size Wd w8:=dh.trans (gW.mono dh.size);refine hK.out _ _ (fun _=>(aO.out _ gX).1) ?_;clear hK cc;have om:=(aO.out _ gX).2.1;have hres:=(HS.out w8 om).2;have y0:w8.cell? ⟨w.heap.size+1+1,0,none⟩=some (.int .i64 0):=ah hres rfl;have y1:w8.cell? ⟨w.heap.size+1+1,1,none⟩=some (.slice none 0 0):=ah hres rfl;have eB:w8.frozen? ⟨w.heap.size+1+1,0,none⟩=false:=bE hres;have eD:w8.frozen? ⟨w.heap.size+1+1,1,none⟩=false:=bE hres;have q0:=kW (v0:= .int .i64 (ka:Int)) (v1:= .slice a8 n8 d8) hres;have q1:=kX (v0:= .int .i64 (ka:Int)) (v1:= .slice a8 n8 d8) hres
  have HR:Hid (aG w8 (fun b=>A b\/W.heap.size<=b) (.slice a8 n8 d8) (mU fr mj j (dJ ka fr aC isIn m ks))/\Below W.heap.size W w8):=by
   refine⟨?_,om⟩;have h1:=mX.fo
   have h2:rowOf (L'.take fr++[(Value.slice A3 mj (lc-fr),j,rowOf ((L'.drop fr).take mj))]++L'.drop up)=mU fr mj j (dJ ka fr aC isIn m ks):=by
    unfold mU;rw[<-HT.out.2.1,List.append_assoc,ul,AQ,List.singleton_append,rowOf,AQ,um,<-A7.out,<-List.drop_drop,um,um]
   rw[h2]at h1;refine h1.kept fun x hx _=>⟨rfl,?_⟩;rcases hx with hx|hx
   ·exact hx
   ·exact .inr (Nat.le_trans (Nat.le_trans HW2.out dh.size) hx)
  refine ax.one (i:=15) (by kernel_rfl) ⟨_,rfl,fun K hK=> ?_⟩
  go_simp
  refine hK.out _ _ (fun _=>(aO.out _ gX).1) ?_;clear hK mX gW gX dh om hres;refine ax.last (i:=16) (by kernel_rfl) ⟨_,rfl,fun K hK=> ?_⟩
  go_simp
  refine hK.out _ _ (fun h=>absurd h (by omega)) (NoPanic.normal ?_);clear hK
  go_wp2_with fail
  refine bodyPost_ret (v:= .agg #[.int .i64 (ka:Int),.slice a8 n8 d8]) (by simp[results,Tryz.results147,go_sem,q0,q1]) rfl ?_;have hz:=HM.out.2.1;exact⟨_,rfl,HR.out.1.rz HA.out hz _ _,((HM.out.1.trans (HR.out.2.mono HM.out.1.size)).setCell (by simp;omega) _).setCell (by simp;omega) _⟩
 |none=>
  obtain⟨hq2,hq3,hush⟩:=HQ.out.2.1 hin
  have hbel:(decide (0<=(q:Int)-(ka:Int))&&decide ((q:Int)-(ka:Int)<(I.length:Int)))=false:=by
   rw[Bool.and_eq_false_iff];rcases hq2 with h|h
   ·exact .inl (decide_eq_false (by omega))
   ·exact .inr (decide_eq_false (by omega))
  have HNb:Hid (∀wq:World,Calls Tryz.prog 150 #[.agg #[.int .i64 T,.int .i64 N,.slice ra R.length rc,.int .i64 o,.int .i64 (ka:Int),.int .i64 b,.int .i64 c,.slice ca I.length cc,.int .i64 (fr:Int)],.int .i64 (q:Int)] wq fun e w'=>e= .returned (.int .i64 ((aC q:Nat):Int))/\Below wq.heap.size wq w'):=fun wq=>by
   rw[hush];exact Z8 hq3 hq1 uz
  rw[if_neg (by simp),if_neg (by simp)];clear hq2 hq3 hush
  go_enter Tryz.func147,Tryz.ntmps147
  go_wp2_with
   (first
    |(go_at_call 141;refine ea.mono ?_;rintro e w2 ⟨rv,L',rfl,bP,hG2,hB2⟩
      obtain⟨la,lc,hlv⟩:=aY bP.own;subst hlv;obtain⟨n2,hn2⟩:∃n,L'.length=n:=⟨_,rfl⟩;rw[hn2]at bP⊢;obtain⟨z0,z1,z2,z3,z4,z5,z6,z7,z8,z9,jK⟩:=(HS.out w2 hB2).1
      have HT:Hid (aG w2 (fun b=>A b\/W.heap.size<=b) (.slice la n2 lc) (dJ ka fr aC isIn m ks)/\Below W.heap.size W w2):=by
       refine⟨?_,hB2⟩;have:=bP.kU.fo;rw[hG2]at this;exact this
      have ib:=qV (w:=w2) (n:=(q:Int)-(ka:Int)) (m:=(I.length:Int));rw[hbel]at ib;have nb:=HNb.out w2
      clear ea bP hG2 hB2 hn2 x0 x1 x2 x3 x4 x5 x6 x7 x8 x9 x10 hW hbel)
    |(go_at_call 42;refine ib.mono ?_;rintro e w3 ⟨rfl,h3⟩;obtain rfl:w2=w3:=h3.symm;clear ib)
    |(go_at_call 150;refine nb.mono ?_;rintro e w4 ⟨rfl,hB4⟩
      have gD:Below W.heap.size W w4:=HT.out.2.trans (hB4.mono HT.out.2.size);have hres:=(HS.out w4 gD).2;have y0:w4.cell? ⟨w.heap.size+1+1,0,none⟩=some (.int .i64 0):=ah hres rfl;have y1:w4.cell? ⟨w.heap.size+1+1,1,none⟩=some (.slice none 0 0):=ah hres rfl;have eB:w4.frozen? ⟨w.heap.size+1+1,0,none⟩=false:=bE hres;have eD:w4.frozen? ⟨w.heap.size+1+1,1,none⟩=false:=bE hres;have q0:=kW (v0:= .int .i64 ((aC q:Nat):Int)) (v1:= .slice la n2 lc) hres;have q1:=kX (v0:= .int .i64 ((aC q:Nat):Int)) (v1:= .slice la n2 lc) hres;have RH:Hid (aG w4 (fun b=>A b\/W.heap.size<=b) (.slice la n2 lc) (dJ ka fr aC isIn m ks)/\Below W.heap.size W w4):=⟨HT.out.1.below hB4,gD⟩
      clear nb hB4 gD hres z0 z1 z2 z3 z4 z5 z6 z7 z8 z9 jK))
  refine bodyPost_ret (v:= .agg #[.int .i64 ((aC q:Nat):Int),.slice la n2 lc]) (by simp[results,Tryz.results147,go_sem,q0,q1]) rfl ?_;have hz:=HM.out.2.1;exact⟨_,rfl,RH.out.1.rz HA.out hz _ _,((HM.out.1.trans (RH.out.2.mono HM.out.1.size)).setCell (by simp;omega) _).setCell (by simp;omega) _⟩
end
theorem Mh{w:World}{T N:Int}{ra:Option Addr}{rc k:Nat}{op a b c:Int}{R:List Ru}(hr:aD w w.heap.size (.slice ra R.length rc) R)(hk:k<R.length):
 Calls Tryz.prog 45 #[.agg #[.int .i64 T,.int .i64 N,.slice ra R.length rc,.int .i64 op,.int .i64 a,.int .i64 b,.int .i64 c],.int .i64 k] w fun e w'=>e= .returned (.bool (gM a (R.getD k (0,[]))))/\Below w.heap.size w w':=by
 obtain⟨W0,hW0⟩:∃W,w.alloc (.cells #[.int .i64 T,.int .i64 N,.slice ra R.length rc,.int .i64 op,.int .i64 a,.int .i64 b,.int .i64 c] 114)=W:=⟨_,rfl⟩;have hB0:Below w.heap.size w W0:=by rw[<-hW0];exact(Below.refl _ _).alloc (Nat.le_refl _) _
 have x2:W0.cell? ⟨w.heap.size,2,none⟩=some (.slice ra R.length rc):=by rw[<-hW0];exact ah (heap_alloc_new _ _) rfl
 have x4:W0.cell? ⟨w.heap.size,4,none⟩=some (.int .i64 a):=by rw[<-hW0];exact ah (heap_alloc_new _ _) rfl
 obtain⟨b0,o0,nX,qa,qc,hv,_,k1,k2,hsy⟩:=(hr.below hB0).jF hk;cases hv;obtain⟨⟨L,l⟩,hx⟩:∃x,R.getD k (0,[])=x:=⟨_,rfl⟩;rw[hx]at k1 k2 hsy⊢;simp only at k1 k2 hsy;obtain⟨W1,hW1⟩:∃W,W0.alloc (.cells #[.int .i64 L,.slice qa l.length qc] 79)=W:=⟨_,rfl⟩;have hB1:Below W0.heap.size W0 W1:=by rw[<-hW1];exact(Below.refl _ _).alloc (Nat.le_refl _) _
 have y4:=(hB1.cell (World.block_lt_of_cell? _ _ x4)).trans x4;have r0:W1.cell? ⟨W0.heap.size,0,none⟩=some (.int .i64 L):=by rw[<-hW1];exact ah (heap_alloc_new _ _) rfl
 have r1:W1.cell? ⟨W0.heap.size,1,none⟩=some (.slice qa l.length qc):=by rw[<-hW1];exact ah (heap_alloc_new _ _) rfl
 have HB:Hid (Below w.heap.size w W1):=hB0.trans (hB1.mono hB0.size);have Ii:=hsy.same (iT hB1);have i0:(0:Int)<=(k:Int):=Int.natCast_nonneg _;have i1:(k:Int)<(R.length:Int):=by omega
 clear hr hx hB0 hB1 hsy;by_cases uH:L=a
 ·subst uH
  by_cases h0:0<l.length
  ·obtain⟨b1,o1,c1,h1,h2,h3⟩:=Ii.2 0 h0
   cases h1;simp only[Nat.zero_mul,Nat.add_zero]at h2 h3;obtain⟨⟨t,v⟩,hx⟩:∃x,l.getD 0 (false,0)=x:=⟨_,rfl⟩;rw[hx]at h2 h3;simp only at h2 h3;have j0:(0:Int)<(l.length:Int):=by omega
   have hE:gM L (L,l)=(!t&&decide (v=L)):=by unfold gM oP;simp only[hx];simp[h0]
   rw[hE];have eL:(L==L)=true:=by simp
   clear Ii hx hE;cases t with
   |true=>
    go_enter Tryz.func45,Tryz.ntmps45
    go_wp2_with fail
    go_big_quiet (fail)
    go_wp2_with fail
    go_ret;exact⟨rfl,below_drewN HB.out _⟩
   |false=>
    by_cases hv:v=L
    ·subst hv
     go_enter Tryz.func45,Tryz.ntmps45
     go_wp2_with fail
     go_big_quiet (fail)
     go_wp2_with fail
     go_ret;exact⟨by simp,below_drewN HB.out _⟩
    ·have e1:(v==L)=false:=by simpa using hv
     go_enter Tryz.func45,Tryz.ntmps45
     go_wp2_with fail
     go_big_quiet (fail)
     go_wp2_with fail
     go_ret;exact⟨by simp[hv],below_drewN HB.out _⟩
  ·have hl0:l.length=0:=by omega
   have hE:gM L (L,l)=false:=by unfold gM oP;simp[hl0]
   rw[hE];rw[hl0]at r1 k2 hW1;have eL:(L==L)=true:=by simp
   clear Ii hE h0 hl0
   go_enter Tryz.func45,Tryz.ntmps45
   go_wp2_with fail
   go_big_quiet (fail)
   go_wp2_with fail
   go_ret;exact⟨rfl,below_drewN HB.out _⟩
 ·have hE:gM a (L,l)=false:=by unfold gM;simp[uH]
  rw[hE];have eL:(L==a)=false:=by simpa using uH
  clear Ii hE uH
  go_enter Tryz.func45,Tryz.ntmps45
  go_wp2_with fail
  go_big_quiet (fail)
  go_wp2_with fail
  go_ret;exact⟨rfl,below_drewN HB.out _⟩
end Go.Proofs.YtpkmpkphfflpjaaGreat
