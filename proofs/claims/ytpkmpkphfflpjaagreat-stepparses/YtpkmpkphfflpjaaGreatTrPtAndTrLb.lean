import Derived.Test.YtpkmpkphfflpjaaGreatTrOnAndTrLf
set_option maxHeartbeats 6400000
set_option maxRecDepth 100000
namespace Go.Proofs.YtpkmpkphfflpjaaGreat
open Go.RowKit
theorem R3{w:World}{A:Nat->Prop}{va:Option Addr}{n vc:Nat}{L:List Tr}{x:Tr}(hL:bU w A (.slice va (n+1) vc) (L++[x]))(hn:n<=100000):
 Calls Tryz.prog 158 #[.slice va (n+1:Nat) vc] w fun e w'=>e= .returned (.tuple #[.slice va n vc,.agg #[.int .i64 (x.2.1:Int),x.1]])/\Below w.heap.size w w':=by
 have hl:(L++[x]).length=n+1:=by obtain⟨_,_,h,_⟩:=hL.form;injection h with _ h _;omega
 have vG:L.length=n:=by simpa using hl
 obtain⟨b1,o1,c1,hv,_,t1,t2⟩:=hL.cells n (by omega);rw[hl]at hv;injection hv with hv1 _ hv3;subst hv1;subst hv3;have hx:(L++[x])[n]=x:=by simp[<-vG]
 have hcap:n+1<=vc:=by obtain⟨_,_,h,h'⟩:=hL.form;injection h with _ h5 h6;omega
 obtain⟨ka,kc,hkv,_⟩:=hL.kids x (by simp);rw[hx]at t1 t2;obtain⟨xv,xq,xk⟩:=x;simp only at t1 t2 hkv⊢;obtain⟨m,hm⟩:∃m,aS xk=m:=⟨_,rfl⟩;rw[hm]at hkv;subst hkv;obtain⟨W,hW⟩:∃W,w.alloc (.cells #[.int .i64 0,.slice none 0 0] 73)=W:=⟨_,rfl⟩;have hB:Below w.heap.size w W:=by rw[<-hW];exact(Below.refl _ _).alloc (Nat.le_refl _) _
 have hres:=heap_alloc_new w (.cells #[.int .i64 0,.slice none 0 0] 73);rw[hW]at hres;obtain⟨sz,hsz⟩:∃x,w.heap.size=x:=⟨_,rfl⟩;have HB:Hid (Below w.heap.size w W/\w.heap.size=sz):=⟨hB,hsz⟩;rw[hsz]at hres;have s1:=(hB.cell (World.block_lt_of_cell? _ _ t1)).trans t1;have s2:=(hB.cell (World.block_lt_of_cell? _ _ t2)).trans t2;have aO:Hid (∀wq,Below W.heap.size W wq->wq.cell? ⟨b1,o1+n*2,none⟩=some (.int .i64 (xq:Int))/\wq.cell? ⟨b1,o1+n*2+1,none⟩=some (.slice ka m kc)):=fun wq hq=>⟨(hq.cell (World.block_lt_of_cell? _ _ s1)).trans s1,(hq.cell (World.block_lt_of_cell? _ _ s2)).trans s2⟩;obtain⟨Wd,hWd⟩:∃V,W.drew=V:=⟨_,rfl⟩;have hBd:Below W.heap.size W Wd:=by rw[<-hWd];exact(Below.refl _ _).drew
 have S0:=aO.out Wd hBd;have hres':=(hBd.block _ (Array.getElem?_eq_some_iff.1 hres).1).trans hres;have y0:Wd.cell? ⟨sz,0,none⟩=some (.int .i64 0):=ah hres' rfl;have y1:Wd.cell? ⟨sz,1,none⟩=some (.slice none 0 0):=ah hres' rfl;have eB:Wd.frozen? ⟨sz,0,none⟩=false:=bE hres';have eD:Wd.frozen? ⟨sz,1,none⟩=false:=bE hres';have q0:=kW (v0:= .int .i64 (xq:Int)) (v1:= .slice ka m kc) hres';have q1:=kX (v0:= .int .i64 (xq:Int)) (v1:= .slice ka m kc) hres';have eP:Hid (Below w.heap.size w ((Wd.setCell ⟨sz,0,none⟩ (.int .i64 (xq:Int))).setCell ⟨sz,1,none⟩ (.slice ka m kc))):=((hB.trans (hBd.mono hB.size)).setCell (by simp only;omega) _).setCell (by simp only;omega) _;have hup:=fun w=>DV (la:=some ⟨b1,o1,none⟩) (f:=n) (sl:=n+1) (lc:=vc) (fi:=(n:Int)) rfl (by omega) w;have i0:(0:Int)<=(n:Int):=Int.natCast_nonneg _;have i1:(n:Int)<((n+1:Nat):Int):=by omega
 have hwr:IntKind.i64.wrap (((n+1:Nat):Int)-1)=(n:Int):=by rw[IntWalk.i64_in _ (by omega)];omega
 have HW:Hid (w.alloc (.cells #[.int .i64 0,.slice none 0 0] 73)=W):=hW;obtain⟨n1,hn1⟩:∃n1,n+1=n1:=⟨_,rfl⟩;rw[hn1]at hup i1 hwr⊢;clear hL hl vG t1 t2 hx hcap hm hB hres hres' hBd s1 s2 hn1 hW
 go_enter Tryz.func158,Tryz.ntmps158
 go_upto_region 2 with fail
 rw[HW.out];clear hsz HB HW;refine iw [0,1,2,3,4,5,6,7] 1 8 (fun wq=>wq.cell? ⟨b1,o1+n*2,none⟩=some (.int .i64 (xq:Int))/\wq.cell? ⟨b1,o1+n*2+1,none⟩=some (.slice ka m kc)) (by kernel_rfl) (by kernel_rfl) (by rw[hWd];exact S0) ?_;rw[hWd];clear hWd S0 aO
 iterate 8
  refine aU.gN (v:= ?_) rfl (by rfl) ?_ ?_;rotate_left
  ·intro w' hSw
   obtain⟨z0,z1⟩:=hSw
   go_simp
   try with_reducible rfl
  simp only[Act.put,List.setIfInBounds_toArray,List.set_cons_zero,List.set_cons_succ]
 rw[aU];refine ax.last (i:=8) (by kernel_rfl) ⟨_,rfl,fun K hK=> ?_⟩
 go_simp
 refine hK.out _ _ (fun h=>absurd h (by omega)) (NoPanic.normal ?_);clear hK
 go_wp2_with fail
 refine bodyPost_ret (v:= .tuple #[.slice (some ⟨b1,o1,none⟩) n vc,.agg #[.int .i64 (xq:Int),.slice ka m kc]]) (by simp[results,Tryz.results158,go_sem,q0,q1]) rfl ?_;exact⟨rfl,eP.out⟩
structure iM(w:World)(cx:Array Value)(p6 p7:Nat)(A:Nat->Prop)(q:Nat)(kv:Value)(cq:Nat)(cv:Value)(oq:Nat)(ov:Value)(ok:Fo)(wr:World):Prop where
 below:Below w.heap.size w wr
 lo:w.heap.size+3<=p6
 lt:p6<p7
 fG:wr.heap[w.heap.size]?=some (.cells cx 114 (0,0))
 gV:wr.heap[w.heap.size+1]?=some (.cells #[.int .i64 (q:Int),kv] 73 (0,0))
 res:wr.heap[w.heap.size+1+1]?=some (.cells #[.int .i64 0,.slice none 0 0] 73 (0,0))
 jY:wr.heap[p6]?=some (.cells #[.int .i64 (cq:Int),cv] 73 (0,0))
 out:wr.heap[p7]?=some (.cells #[.int .i64 (oq:Int),ov] 73 (0,0))
 A8:aG wr (fun b=>A b\/(p6<b/\b≠p7)) ov ok
section
variable{w wr w':World}{cx:Array Value}{p6 p7:Nat}{A:Nat->Prop}{q:Nat}{kv:Value}{cq:Nat}{cv:Value}{oq:Nat}{ov:Value}{ok:Fo}
theorem iM.hi(h:iM w cx p6 p7 A q kv cq cv oq ov ok wr):p7<wr.heap.size:=(Array.getElem?_eq_some_iff.1 h.out).1
theorem iM.next(h:iM w cx p6 p7 A q kv cq cv oq ov ok wr)(hb:Below wr.heap.size wr w'):iM w cx p6 p7 A q kv cq cv oq ov ok w':=by
 have h1:=h.hi;have h2:=h.lo;have h3:=h.lt;exact⟨h.below.trans (hb.mono h.below.size),h.lo,h.lt,(hb.block _ (by omega)).trans h.fG,(hb.block _ (by omega)).trans h.gV,(hb.block _ (by omega)).trans h.res,(hb.block _ (by omega)).trans h.jY,(hb.block _ h1).trans h.out,h.A8.below hb⟩
theorem iM.R4(h:iM w cx p6 p7 A q kv cq cv oq ov ok wr)(hA:∀b,A b->b<w.heap.size){nq:Nat}{nv:Value}{nk:Fo}(hk:aG wr (fun b=>A b\/(p6<b/\b≠p7)) nv nk):iM w cx p6 p7 A q kv cq cv nq nv nk ((wr.setCell ⟨p7,0,none⟩ (.int .i64 (nq:Int))).setCell ⟨p7,1,none⟩ nv):=by
 have h1:=h.hi;have h2:=h.lo;have h3:=h.lt;refine⟨(h.below.setCell (by simp only;omega) _).setCell (by simp only;omega) _,h.lo,h.lt,(mq (by omega) _ _).trans h.fG,(mq (by omega) _ _).trans h.gV,(mq (by omega) _ _).trans h.res,(mq (by omega) _ _).trans h.jY,Ec h.out,?_⟩;refine hk.laid (fun h=> ?_) _ _ fun b hb=>hb;rcases h with h|h
 ·have:=hA _ h;omega
 ·exact h.2 rfl
theorem iM.aao(h:iM w cx p6 p7 A q kv cq cv oq ov ok wr)(hA:∀b,A b->b<w.heap.size){nq:Nat}{nv:Value}:iM w cx p6 p7 A q kv nq nv oq ov ok ((wr.setCell ⟨p6,0,none⟩ (.int .i64 (nq:Int))).setCell ⟨p6,1,none⟩ nv):=by
 have h1:=h.hi;have h2:=h.lo;have h3:=h.lt;refine⟨(h.below.setCell (by simp only;omega) _).setCell (by simp only;omega) _,h.lo,h.lt,(mq (by omega) _ _).trans h.fG,(mq (by omega) _ _).trans h.gV,(mq (by omega) _ _).trans h.res,Ec h.jY,(mq (by omega) _ _).trans h.out,?_⟩;refine h.A8.laid (fun h=> ?_) _ _ fun b hb=>hb;rcases h with h|h
 ·have:=hA _ h;omega
 ·omega
end
theorem iM.cells{w wr:World}{T N o a b c:Int}{ra:Option Addr}{rl rc p6 p7:Nat}{A:Nat->Prop}{q:Nat}{kv:Value}{cq:Nat}{cv:Value}{oq:Nat}{ov:Value}{ok:Fo}(h:iM w #[.int .i64 T,.int .i64 N,.slice ra rl rc,.int .i64 o,.int .i64 a,.int .i64 b,.int .i64 c] p6 p7 A q kv cq cv oq ov ok wr):nO w.heap.size T N o a b c ra rl rc q kv wr/\wr.cell? ⟨p6,0,none⟩=some (.int .i64 (cq:Int))/\wr.cell? ⟨p6,1,none⟩=some cv/\wr.cell? ⟨p7,0,none⟩=some (.int .i64 (oq:Int))/\wr.cell? ⟨p7,1,none⟩=some ov:=
 ⟨⟨ah h.fG rfl,ah h.fG rfl,ah h.fG rfl,ah h.fG rfl,ah h.fG rfl,ah h.fG rfl,ah h.fG rfl,ah h.gV rfl,ah h.gV rfl⟩,ah h.jY rfl,ah h.jY rfl,ah h.out rfl,ah h.out rfl⟩
theorem fQ.out{w wz:World}{cx:Array Value}{p6 p7:Nat}{A:Nat->Prop}{q:Nat}{kv:Value}{cq:Nat}{cv:Value}{ck:Fo}(h:fQ w cx p6 A q kv cq cv ck wz)(hA:∀b,A b->b<w.heap.size)(hp:p6<p7)(hz:wz.heap[p7]?=some (.cells #[.int .i64 0,.slice none 0 0] 73 (0,0))){oq:Nat}{ov:Value}{ok:Fo}(hk:aG wz (fun b=>A b\/(p6<b/\b≠p7)) ov ok):iM w cx p6 p7 A q kv cq cv oq ov ok ((wz.setCell ⟨p7,0,none⟩ (.int .i64 (oq:Int))).setCell ⟨p7,1,none⟩ ov):=by
 have h2:=h.lo;refine⟨(h.below.setCell (by simp only;omega) _).setCell (by simp only;omega) _,h.lo,hp,(mq (by omega) _ _).trans h.fG,(mq (by omega) _ _).trans h.gV,(mq (by omega) _ _).trans h.res,(mq (by omega) _ _).trans h.jY,Ec hz,?_⟩;refine hk.laid (fun h=> ?_) _ _ fun b hb=>hb;rcases h with h|h
 ·have:=hA _ h;omega
 ·exact h.2 rfl
theorem R5{N:Nat}{R R':List Ru}{A:Int}{own aj:Nat->Bool}(h:mV N R R' A own aj):∀(t:Fo) (ns:List Int),(∀n∈ns,n<(N:Int))->okF R' t ns->aS (aN R.length own aj t).1=aS t
 | .no,_,_,_=>rfl
 | .nd q ks ts,ns,hn,hok=>by
  obtain⟨n,ns',e,h1,h2,h3,h4⟩:=hok;subst e;rw[RS h q ks ts ⟨n,hn n (List.mem_cons_self ..),n,[],rfl,h1,h2,h3,rfl⟩,aS,aS,R5 h ts _ (fun x hx=>hn x (List.mem_cons_of_mem _ hx)) h4]
theorem aap{w W w2:World}{cx:Array Value}{q:Nat}{kv:Value}{A:Nat->Prop}(hM:DL w W cx 114 (q:Int) kv)(hb:Below W.heap.size W w2){cq:Nat}{cv:Value}{ck:Fo}(hk:aG w A cv ck):fQ w cx w2.heap.size A q kv cq cv ck (w2.alloc (.cells #[.int .i64 (cq:Int),cv] 73)):=by
 have h1:=hM.size;have h2:=hb.size;have hb':Below W.heap.size W (w2.alloc (.cells #[.int .i64 (cq:Int),cv] 73)):=hb.alloc hb.size _;have hw:=hM.below.trans (hb'.mono hM.below.size);exact⟨hw,by omega,(hb'.block _ (by omega)).trans hM.fG,(hb'.block _ (by omega)).trans hM.gV,(hb'.block _ (by omega)).trans hM.res,heap_alloc_new w2 _,(hk.below hw).kept fun b hb _=>⟨rfl,.inl hb⟩⟩
theorem R6{L:List Tr}{X:Fo}{q:Nat}{ks:Fo}(h:rowOf L=aF X (.nd q ks .no)):∃L1 v,L=L1++[(v,q,ks)]/\rowOf L1=X:=by
 induction X generalizing L with
 |no=>
  match L,h with
  | [x],h=>
   rw[rowOf,rowOf,aF]at h;injection h with h1 h2 _;obtain⟨v,q',ks'⟩:=x;simp only at h1 h2;subst h1 h2;exact⟨[],v,rfl,rfl⟩
  |_::_::_,h=>rw[rowOf,rowOf,aF]at h;injection h with _ _ h3;cases h3
 |nd p k t _ ih=>
  match L,h with
  |x::L,h=>
   rw[rowOf,aF]at h;injection h with h1 h2 h3;obtain⟨L1,v,e,e2⟩:=ih h3;refine⟨x::L1,v,by rw[e];rfl,?_⟩;rw[rowOf,e2,h1,h2]
section
variable{w0:World}{R R':List Ru}{own aj:Nat->Bool}{T Nn o a b c:Int}{N:Nat}{ra:Option Addr}{rc:Nat}
theorem aaq(hL:mV N R R' a own aj)(hR:aD w0 w0.heap.size (.slice ra R.length rc) R):∀(n:Nat) (w:World) (q:Nat) (ks:Fo) (kv:Value) (A:Nat->Prop),(ai ks).length<n->Below w0.heap.size w0 w->(∃nm,nm<(N:Int)/\okF R' (.nd q ks .no) [nm])->(ai ks).length<=2000->aG w A kv ks->(∀b,A b->b<w.heap.size)->
 Calls Tryz.prog 155 #[.agg #[.int .i64 T,.int .i64 Nn,.slice ra R.length rc,.int .i64 o,.int .i64 a,.int .i64 b,.int .i64 c],.agg #[.int .i64 (q:Int),kv]] w fun e w'=> ∃kv',e= .returned (.agg #[.int .i64 ((leB R.length own aj q ks).1:Int),kv'])/\aG w' (fun b=>A b\/w.heap.size<=b) kv' (leB R.length own aj q ks).2/\Below w.heap.size w w':=by
 intro n
 induction n with
 |zero=>intro _ _ _ _ _ h;omega
 |succ n ih=>
 intro w q ks kv A hn hb0 uF hl hk hA;obtain⟨nm,hnm,hok⟩:=uF;have hk1:=hk;obtain⟨aW,kc,hkv,_⟩:=hk1;obtain⟨n1,hn1⟩:∃n,aS ks=n:=⟨_,rfl⟩;rw[hn1]at hkv;subst hkv;obtain⟨W,hW⟩:∃W,((w.alloc (.cells #[.int .i64 T,.int .i64 Nn,.slice ra R.length rc,.int .i64 o,.int .i64 a,.int .i64 b,.int .i64 c] 114)).alloc (.cells #[.int .i64 (q:Int),.slice aW n1 kc] 73)).alloc (.cells #[.int .i64 0,.slice none 0 0] 73)=W:=⟨_,rfl⟩;have hM:=oh hW
 have HS:Hid (∀wq,Below W.heap.size W wq->nO w.heap.size T Nn o a b c ra R.length rc q (.slice aW n1 kc) wq/\wq.heap[w.heap.size+1+1]?=some (.cells #[.int .i64 0,.slice none 0 0] 73 (0,0))):=fun wq h1=>by
  have hc:=(h1.block _ (by have:=hM.size;omega)).trans hM.fG;have ht:=(h1.block _ (by have:=hM.size;omega)).trans hM.gV;exact⟨⟨ah hc rfl,ah hc rfl,ah hc rfl,ah hc rfl,ah hc rfl,ah hc rfl,ah hc rfl,ah ht rfl,ah ht rfl⟩,(h1.block _ (by have:=hM.size;omega)).trans hM.res⟩
 obtain⟨x0,x1,x2,x3,x4,x5,x6,x7,x8⟩:=(HS.out W (Below.refl _ _)).1
 have rA:Hid (∀(wq:World) (A':Nat->Prop) (v':Value) (ks':Fo) (ns:List Int),Below w.heap.size w wq->aG wq A' v' ks'->(∀b,A' b->b<wq.heap.size)->(ai ks').length<=(ai ks).length->(∀n∈ns,n<(N:Int))->okF R' ks' ns->Calls Tryz.prog 141 #[v',.func (.func 155) #[.agg #[.int .i64 T,.int .i64 Nn,.slice ra R.length rc,.int .i64 o,.int .i64 a,.int .i64 b,.int .i64 c]] #[]] wq fun e w'=> ∃ov L',e= .returned ov/\gu w' wq.heap.size A' ov L'/\rowOf L'=(aN R.length own aj ks').1/\L'.length<=2000/\Below wq.heap.size wq w'):=fun wq A' v' ks' ns hq' hk' hA' hs' hns hok'=>by
  have hP:∀q' k',uy q' k' ks'->∃n,n<(N:Int)/\okF R' (.nd q' k' .no) [n]:=fun q' k' hm=>by
   obtain⟨n,h1,h2⟩:=Ij hok' hm;exact⟨n,hns n h1,h2⟩
  refine(RN (F:=leB R.length own aj) (G:=fun t=>(aN R.length own aj t).1) (P:=fun q ks=> ∃n,n<(N:Int)/\okF R' (.nd q ks .no) [n]) (fun args w'=>by simp[callFunc,Tryz.func155,Tryz.f155 ]) rfl (RS hL) hP hk' hA' (by omega) fun w' q'' D5 D6 hm hb' hk'' D7=> ?_).mono ?_
  ·have:=sj hm
   exact ih w' q'' D5 D6 A' (by omega) (hb0.trans ((hq'.trans (hb'.mono hq'.size)).mono hb0.size)) (hP _ _ hm) (by omega) hk'' D7
  ·rintro e w' ⟨ov,L',rfl,h1,h2,h3⟩
   refine⟨ov,L',rfl,h1,h2,?_,h3⟩;rw[<-nK,h2,R5 hL _ _ hns hok'];obtain⟨LL,ou,-⟩:=hk'.list;have h2:=qj LL;have h3:=nK LL;rw[ou]at h2 h3;omega
 have HM:Hid (Below w.heap.size w W/\w.heap.size+3<=W.heap.size/\Below w0.heap.size w0 w):=⟨hM.below,by have:=hM.size;omega,hb0⟩;have Ik:Hid (DL w W #[.int .i64 T,.int .i64 Nn,.slice ra R.length rc,.int .i64 o,.int .i64 a,.int .i64 b,.int .i64 c] 114 (q:Int) (.slice aW n1 kc)):=hM;have HA:Hid (∀b,A b->b<w.heap.size):=hA;have HK:Hid (aG w A (.slice aW n1 kc) ks/\(ai ks).length<=2000):=⟨hk,hl⟩;obtain⟨h1,hown,hcase⟩:=RQ hL hnm hok;have R7:Hid (∀x∈aB (R.getD q (0,[])).2,x<(N:Int)):=RV hL h1;obtain⟨b0,o0,nX,qa,qc,hv,_,k1,-,-⟩:=(hR.below (hb0.trans (hM.below.mono hb0.size))).jF h1;injection hv with hv1 _ hv3;subst hv1;subst hv3;obtain⟨Lq,uJ⟩:∃x,(R.getD q (0,[])).1=x:=⟨_,rfl⟩;rw[uJ]at k1 hcase;have i0:(0:Int)<=(q:Int):=Int.natCast_nonneg _;have i1:(q:Int)<(R.length:Int):=by omega
 clear ih hn hl hk hA hM hb0 hn1 hok hnm;rcases hcase with⟨jH,eF,X,ch,hks,R8,Mq,hres⟩|⟨jH,eF,R9,hres⟩
 ·subst eF
  have heq:(Lq==Lq)=true:=by simp
  obtain⟨cq,ck,rfl,-,-⟩:=wU hL Mq;obtain⟨LL,ou,hTL⟩:=HK.out.1.list;rw[hks]at ou;obtain⟨L1,cv,rfl,hX⟩:=R6 ou;obtain⟨m,hm⟩:∃m,L1.length=m:=⟨_,rfl⟩;have aar:n1=m+1:=by obtain⟨_,_,h,_⟩:=hTL.form;injection h with _ h _;rw[List.length_append]at h;simp only[List.length_singleton]at h;omega
  subst aar;have hsz:(ai ks).length=(ai X).length+((ai ck).length+1):=by rw[hks,kP,List.length_append,ai,List.length_cons,List.length_append];rfl
  have hms:m<=2000:=by have h2:=qj L1;rw[hX]at h2;have:=HK.out.2;omega
  obtain⟨ca,cc,hcv,hcc,-⟩:=hTL.kids (cv,cq,ck) (by simp);have hck:=hTL.kids (cv,cq,ck) (by simp);simp only at hcv hck;obtain⟨cm,hcm⟩:∃n,aS ck=n:=⟨_,rfl⟩;rw[hcm]at hcv;subst hcv
  have Sb:aG w A (.slice aW m kc) X:=by
   have h0:bU w A (.slice aW (L1++[(Value.slice ca cm cc,cq,ck)]).length kc) (L1++[(.slice ca cm cc,cq,ck)]):=by rw[List.length_append,hm];exact hTL
   have h1:=(h0.take (f:=m) (by rw[List.length_append];omega)).fo;rw[<-hm,List.take_left,hX,hm]at h1;exact h1
  have HX:Hid (aG w A (.slice aW m kc) X/\okF R' X (aB (R.getD q (0,[])).2)/\(ai ks).length=(ai X).length+((ai ck).length+1)):=⟨Sb,R8,hsz⟩;have HC:Hid (aG w A (.slice ca cm cc) ck/\okF R' (.nd cq ck .no) [(N:Int)]/\(aN R.length own aj (.nd q ks .no)).1=(aN R.length own aj (.nd cq ck .no)).2 (.nd q (aN R.length own aj X).1 .no)):=⟨hck,Mq,hres⟩;have D8:Hid (bU w A (.slice aW (m+1) kc) (L1++[(.slice ca cm cc,cq,ck)])):=hTL;clear uJ h1 jH hks R8 Mq hres ou hTL hX hm hsz hcc hck hcm Sb hR hown
  go_enter Tryz.func155,Tryz.ntmps155
  go_upto_region 1 with fail
  go_big_quiet (fail)
  go_upto_region 3 with fail
  obtain⟨V0,oo⟩:∃V,W.drewN nq=V:=⟨_,rfl⟩;have hB0:Below W.heap.size W V0:=by rw[<-oo];exact below_drewN (Below.refl _ _) _
  rw[oo];clear oo x0 x1 x2 x3 x4 x5 x6 x7 x8;obtain⟨x0,x1,x2,x3,x4,x5,x6,x7,x8⟩:=(HS.out V0 hB0).1;have HB0:Hid (Below W.heap.size W V0/\Below w.heap.size w V0):=⟨hB0,HM.out.1.trans (hB0.mono HM.out.1.size)⟩;have pa:=R3 (w:=V0) (n:=m) (D8.out.below HB0.out.2) (by omega);simp only at pa;obtain⟨n1,hn1⟩:∃n1,m+1=n1:=⟨_,rfl⟩;have Il:Hid (m+1=n1):=hn1;rw[hn1]at x8 pa HS Ik;clear hB0 hW k1
  go_upto_region 4 with
   (go_at_call 158;refine pa.mono ?_;rintro e w2 ⟨rfl,hB2⟩
    have HB2:Hid (Below W.heap.size W w2):=HB0.out.1.trans (hB2.mono HB0.out.1.size)
    clear pa hB2 x0 x1 x2 x3 x4 x5 x6 x7 x8)
  obtain⟨p6,sD⟩:∃x,w2.heap.size=x:=⟨_,rfl⟩;obtain⟨W4,gD⟩:∃V,w2.alloc (.cells #[.int .i64 (cq:Int),.slice ca cm cc] 73)=V:=⟨_,rfl⟩;have yX:=aap Ik.out HB2.out (cq:=cq) HC.out.1;rw[gD,sD]at yX;rw[gD];rw[sD];have Ef:Hid (fQ w #[.int .i64 T,.int .i64 Nn,.slice (some ⟨b0,o0,none⟩) R.length rc,.int .i64 o,.int .i64 Lq,.int .i64 b,.int .i64 c] p6 A q (.slice aW n1 kc) cq (.slice ca cm cc) ck W4):=yX;clear yX gD sD
  go_cut [7] from 37 to 43 (fun s7 wx=> ∃(p7:Nat) (na:Option Addr) (nl nc:Nat),s7= .pointer (some ⟨p7,0,none⟩)/\iM w #[.int .i64 T,.int .i64 Nn,.slice (some ⟨b0,o0,none⟩) R.length rc,.int .i64 o,.int .i64 Lq,.int .i64 b,.int .i64 c] p6 p7 A q (.slice aW n1 kc) cq (.slice ca cm cc) q (.slice na nl nc) (aN R.length own aj X).1 wx)
  case first=>
   obtain⟨Wd,hWd⟩:∃V,W4.drew=V:=⟨_,rfl⟩;have hBd:Below W4.heap.size W4 Wd:=by rw[<-hWd];exact(Below.refl _ _).drew
   have dZ:=Ef.out.next hBd;have aO:Hid (∀wq,Below Wd.heap.size Wd wq->nO w.heap.size T Nn o Lq b c (some ⟨b0,o0,none⟩) R.length rc q (.slice aW n1 kc) wq/\fQ w #[.int .i64 T,.int .i64 Nn,.slice (some ⟨b0,o0,none⟩) R.length rc,.int .i64 o,.int .i64 Lq,.int .i64 b,.int .i64 c] p6 A q (.slice aW n1 kc) cq (.slice ca cm cc) ck wq):=fun wq hq=>⟨(dZ.next hq).cells.1,dZ.next hq⟩;have S0:=(aO.out Wd (Below.refl _ _)).1
   have HE2:Hid (∀wq,Below Wd.heap.size Wd wq->Calls Tryz.prog 141 #[.slice aW m kc,.func (.func 155) #[.agg #[.int .i64 T,.int .i64 Nn,.slice (some ⟨b0,o0,none⟩) R.length rc,.int .i64 o,.int .i64 Lq,.int .i64 b,.int .i64 c]] #[]] wq fun e w'=> ∃ov L',e= .returned ov/\gu w' wq.heap.size A ov L'/\rowOf L'=(aN R.length own aj X).1/\L'.length<=2000/\Below wq.heap.size wq w'):=fun wq hq=>by
    have ji:Below w.heap.size w wq:=dZ.below.trans (hq.mono dZ.below.size);exact rA.out wq A _ X _ ji (HX.out.1.below ji) (fun b hb=>Nat.lt_of_lt_of_le (HA.out b hb) ji.size) (by have:=HX.out.2.2;omega) R7.out HX.out.2.1
   have Mr:Hid (p6<Wd.heap.size):=dZ.hi;clear hBd dZ;refine iw [0,1,2,3,4] 4 8 (fun wq=>nO w.heap.size T Nn o Lq b c (some ⟨b0,o0,none⟩) R.length rc q (.slice aW n1 kc) wq) (by kernel_rfl) (by kernel_rfl) (by rw[hWd];exact S0) ?_;rw[hWd];clear hWd S0
   iterate 5
    refine aU.gN (v:= ?_) rfl (by rfl) ?_ ?_;rotate_left
    ·intro w' hSw
     obtain⟨z0,z1,z2,z3,z4,z5,z6,z7,z8⟩:=hSw
     go_simp
     try with_reducible rfl
    simp only[Act.put,List.setIfInBounds_toArray,List.set_cons_zero,List.set_cons_succ]
   rw[aU];refine ax.two (i:=5) (i':=7) (by kernel_rfl) ⟨_,rfl,fun K hK=> ?_⟩ ⟨_,rfl,fun K hK=> ?_⟩
   ·have ea:=HE2.out Wd (Below.refl _ _)
    go_simp
    refine ea.mono ?_;rintro e w3 ⟨rv,L',rfl,bY,hG3,-,hB3⟩;obtain⟨la,lc,hlv⟩:=aY bY.own;subst hlv;obtain⟨n3,jv⟩:∃n,L'.length=n:=⟨_,rfl⟩;rw[jv]at bY⊢;dsimp only;refine hK.out _ _ (fun _=>(aO.out w3 hB3).1) ?_;clear hK ea;refine ax.read (i:=6) (v:= .agg #[.int .i64 (q:Int),.slice la n3 lc]) rfl (by kernel_rfl) (by rfl) (fun w' _=>by unfold execOp;go_simp) (aO.out w3 hB3).1 ?_;simp only[Act.put,List.setIfInBounds_toArray,List.set_cons_zero,List.set_cons_succ];have aP:Below Wd.heap.size Wd (w3.alloc (.cells #[.int .i64 0,.slice none 0 0] 73)):=hB3.alloc hB3.size _
    have A9:aG (w3.alloc (.cells #[.int .i64 0,.slice none 0 0] 73)) (fun b=>A b\/(p6<b/\b≠w3.heap.size)) (.slice la n3 lc) (aN R.length own aj X).1:=by
     have h1:=bY.kU.fo;rw[hG3]at h1;refine(h1.kept fun x hx hlt=>⟨rfl,hx.imp id fun h=>⟨?_,?_⟩⟩:aG w3 (fun b=>A b\/(p6<b/\b≠w3.heap.size)) (.slice la n3 lc) (aN R.length own aj X).1).below ((Below.refl _ _).alloc (Nat.le_refl _) _)
     ·have:=Mr.out;omega
     ·omega
    refine ax.one (i:=7) (by kernel_rfl) ⟨_,rfl,fun K hK=> ?_⟩
    go_simp
    refine hK.out _ _ (fun _=>(aO.out _ aP).1) ?_;clear hK;have hres:=heap_alloc_new w3 (.cells #[.int .i64 0,.slice none 0 0] 73);obtain⟨pz,hpz⟩:∃x,w3.heap.size=x:=⟨_,rfl⟩;obtain⟨wz,hwz⟩:∃V,w3.alloc (.cells #[.int .i64 0,.slice none 0 0] 73)=V:=⟨_,rfl⟩;have HP:Hid (p6<pz):=by show _<_;rw[<-hpz];exact Nat.lt_of_lt_of_le Mr.out hB3.size
    rw[hwz,hpz]at hres A9;rw[hwz]at aP⊢;rw[hpz];have y0:wz.cell? ⟨pz,0,none⟩=some (.int .i64 0):=ah hres rfl;have y1:wz.cell? ⟨pz,1,none⟩=some (.slice none 0 0):=ah hres rfl;have eB:wz.frozen? ⟨pz,0,none⟩=false:=bE hres;have eD:wz.frozen? ⟨pz,1,none⟩=false:=bE hres;have HE:Hid (iM w #[.int .i64 T,.int .i64 Nn,.slice (some ⟨b0,o0,none⟩) R.length rc,.int .i64 o,.int .i64 Lq,.int .i64 b,.int .i64 c] p6 pz A q (.slice aW n1 kc) cq (.slice ca cm cc) q (.slice la n3 lc) (aN R.length own aj X).1 ((wz.setCell ⟨pz,0,none⟩ (.int .i64 (q:Int))).setCell ⟨pz,1,none⟩ (.slice la n3 lc))):=(aO.out wz aP).2.out HA.out HP.out hres A9;clear hwz hpz hB3 aP hres A9 bY hG3;refine ax.last (i:=8) (by kernel_rfl) ⟨_,rfl,fun K hK=> ?_⟩
    go_simp
    refine hK.out _ _ (fun h=>absurd h (by omega)) (NoPanic.normal ?_);clear hK
    go_wp2_with fail
    go_meet
    case rel=>exact⟨pz,la,n3,lc,rfl,HE.out⟩
   ·have cZ:Below Wd.heap.size Wd (Wd.alloc (.cells #[.int .i64 0,.slice none 0 0] 73)):=(Below.refl _ _).alloc (Nat.le_refl _) _
    have Im:(Wd.alloc (.cells #[.int .i64 0,.slice none 0 0] 73)).heap.size=Wd.heap.size+1:=by simp
    go_simp
    refine hK.out _ _ (fun _=>(aO.out _ cZ).1) ?_;clear hK;have hres:=heap_alloc_new Wd (.cells #[.int .i64 0,.slice none 0 0] 73);obtain⟨pz,hpz⟩:∃x,Wd.heap.size=x:=⟨_,rfl⟩;obtain⟨wy,kZ⟩:∃V,Wd.alloc (.cells #[.int .i64 0,.slice none 0 0] 73)=V:=⟨_,rfl⟩;have HP:Hid (p6<pz/\pz=Wd.heap.size):=⟨by rw[<-hpz];exact Mr.out,hpz.symm⟩;rw[kZ]at cZ hres Im⊢;rw[hpz]at hres Im⊢;have Sc:Hid (wy.heap.size=pz+1):=Im;clear kZ hpz Im;have ea:=HE2.out wy cZ;refine ax.one (i:=5) (by kernel_rfl) ⟨_,rfl,fun K hK=> ?_⟩
    go_simp
    refine ea.mono ?_;rintro e wz ⟨rv,L',rfl,bY,hG3,-,hB3⟩;obtain⟨la,lc,hlv⟩:=aY bY.own;subst hlv;obtain⟨n3,jv⟩:∃n,L'.length=n:=⟨_,rfl⟩;rw[jv]at bY⊢;dsimp only;have aP:Below Wd.heap.size Wd wz:=cZ.trans (hB3.mono cZ.size);refine hK.out _ _ (fun _=>(aO.out wz aP).1) ?_;clear hK ea;have hres:=(hB3.block _ (Array.getElem?_eq_some_iff.1 hres).1).trans hres
    have A9:aG wz (fun b=>A b\/(p6<b/\b≠pz)) (.slice la n3 lc) (aN R.length own aj X).1:=by
     have h1:=bY.kU.fo;rw[hG3]at h1;refine h1.kept fun x hx hlt=>⟨rfl,hx.imp id fun h=>⟨?_,?_⟩⟩
     ·have:=HP.out.1;have:=Sc.out;omega
     ·have:=Sc.out;omega
    refine ax.one (i:=6) (by kernel_rfl) ⟨_,rfl,fun K hK=> ?_⟩
    go_simp
    refine hK.out _ _ (fun _=>(aO.out _ aP).1) ?_;clear hK;have y0:wz.cell? ⟨pz,0,none⟩=some (.int .i64 0):=ah hres rfl;have y1:wz.cell? ⟨pz,1,none⟩=some (.slice none 0 0):=ah hres rfl;have eB:wz.frozen? ⟨pz,0,none⟩=false:=bE hres;have eD:wz.frozen? ⟨pz,1,none⟩=false:=bE hres;have HE:Hid (iM w #[.int .i64 T,.int .i64 Nn,.slice (some ⟨b0,o0,none⟩) R.length rc,.int .i64 o,.int .i64 Lq,.int .i64 b,.int .i64 c] p6 pz A q (.slice aW n1 kc) cq (.slice ca cm cc) q (.slice la n3 lc) (aN R.length own aj X).1 ((wz.setCell ⟨pz,0,none⟩ (.int .i64 (q:Int))).setCell ⟨pz,1,none⟩ (.slice la n3 lc))):=(aO.out wz aP).2.out HA.out HP.out.1 hres A9;clear hB3 aP hres A9 bY hG3 cZ;refine ax.last (i:=8) (by kernel_rfl) ⟨_,rfl,fun K hK=> ?_⟩
    go_simp
    refine hK.out _ _ (fun h=>absurd h (by omega)) (NoPanic.normal ?_);clear hK
    go_wp2_with fail
    go_meet
    case rel=>exact⟨pz,la,n3,lc,rfl,HE.out⟩
  case rest=>
   obtain⟨p7,na,nl,nc,rfl,Sd⟩:=hcut;have Ba:Hid (iM w #[.int .i64 T,.int .i64 Nn,.slice (some ⟨b0,o0,none⟩) R.length rc,.int .i64 o,.int .i64 Lq,.int .i64 b,.int .i64 c] p6 p7 A q (.slice aW n1 kc) cq (.slice ca cm cc) q (.slice na nl nc) (aN R.length own aj X).1 wc):=Sd;clear Sd Ef
   go_wp2_with fail
   go_loopg [] ((ai ck).length) (fun gk wr=> ∃(kD:Nat) (rC:Option Addr) (uL cc':Nat) (ow:Fo) (oq:Nat) (ov:Value) (ok:Fo),gk=(ai ow).length/\iM w #[.int .i64 T,.int .i64 Nn,.slice (some ⟨b0,o0,none⟩) R.length rc,.int .i64 o,.int .i64 Lq,.int .i64 b,.int .i64 c] p6 p7 A q (.slice aW n1 kc) kD (.slice rC uL cc') oq ov ok wr/\aG w A (.slice rC uL cc') ow/\okF R' (.nd kD ow .no) [(N:Int)]/\(aN R.length own aj (.nd q ks .no)).1=(aN R.length own aj (.nd kD ow .no)).2 (.nd oq ok .no)/\(ai ow).length<=(ai ks).length)
   case atStart=>exact⟨cq,_,_,_,ck,q,_,_,rfl,Ba.out,HC.out.1,HC.out.2.1,HC.out.2.2,by have:=HX.out.2.2;omega⟩
   case round=>
    clear Ba;obtain⟨kD,rC,uL,cc',ow,oq,ov,ok,lQ,hm,hk',hok',hG',hle'⟩:=hrel;obtain⟨oa,oc,hov,_⟩:=hm.A8;obtain⟨ol,hol⟩:∃n,aS ok=n:=⟨_,rfl⟩;rw[hol]at hov;subst hov;clear hol;have sJ:Hid (iM w #[.int .i64 T,.int .i64 Nn,.slice (some ⟨b0,o0,none⟩) R.length rc,.int .i64 o,.int .i64 Lq,.int .i64 b,.int .i64 c] p6 p7 A q (.slice aW n1 kc) kD (.slice rC uL cc') oq (.slice oa ol oc) ok wr):=hm;have lg:Hid ((aN R.length own aj (.nd q ks .no)).1=(aN R.length own aj (.nd kD ow .no)).2 (.nd oq ok .no)/\gk=(ai ow).length/\(ai ow).length<=(ai ks).length/\aG w A (.slice rC uL cc') ow/\okF R' (.nd kD ow .no) [(N:Int)]):=⟨hG',lQ,hle',hk',hok'⟩;clear hm hG' hle' lQ hk' hok'
    go_upto_region 5 with fail
    obtain⟨Wd,hWd⟩:∃V,wr.drew=V:=⟨_,rfl⟩;have hBd:Below wr.heap.size wr Wd:=by rw[<-hWd];exact(Below.refl _ _).drew
    have dZ:=sJ.out.next hBd;have aO:Hid (∀wq,Below Wd.heap.size Wd wq->(nO w.heap.size T Nn o Lq b c (some ⟨b0,o0,none⟩) R.length rc q (.slice aW n1 kc) wq/\wq.cell? ⟨p6,0,none⟩=some (.int .i64 (kD:Int)))/\iM w #[.int .i64 T,.int .i64 Nn,.slice (some ⟨b0,o0,none⟩) R.length rc,.int .i64 o,.int .i64 Lq,.int .i64 b,.int .i64 c] p6 p7 A q (.slice aW n1 kc) kD (.slice rC uL cc') oq (.slice oa ol oc) ok wq):=fun wq hq=>⟨⟨(dZ.next hq).cells.1,(dZ.next hq).cells.2.1⟩,dZ.next hq⟩;have S0:=(aO.out Wd (Below.refl _ _)).1;have su:=H7 (w:=Wd) (T:=T) (N:=Nn) (ra:=some ⟨b0,o0,none⟩) (rn:=R.length) (rc:=rc) (op:=o) (a:=Lq) (b:=b) (c:=c);clear hBd dZ;refine iw [0,1,2,3] 2 5 (fun wq=>nO w.heap.size T Nn o Lq b c (some ⟨b0,o0,none⟩) R.length rc q (.slice aW n1 kc) wq/\wq.cell? ⟨p6,0,none⟩=some (.int .i64 (kD:Int))) (by kernel_rfl) (by kernel_rfl) (by rw[hWd];exact S0) ?_;rw[hWd];clear hWd S0
    iterate 4
     refine aU.gN (v:= ?_) rfl (by rfl) ?_ ?_;rotate_left
     ·intro w' hSw
      obtain⟨⟨z0,z1,z2,z3,z4,z5,z6,z7,z8⟩,z9⟩:=hSw
      go_simp
      try with_reducible rfl
     simp only[Act.put,List.setIfInBounds_toArray,List.set_cons_zero,List.set_cons_succ]
    rw[aU];refine ax.one (i:=4) (by kernel_rfl) ⟨_,rfl,fun K hK=> ?_⟩
    go_simp
    refine su.mono ?_;rintro e w3 ⟨rfl,hB3⟩;dsimp only;refine hK.out _ _ (fun _=>(aO.out w3 hB3).1) ?_;clear hK su;have gY:Hid (iM w #[.int .i64 T,.int .i64 Nn,.slice (some ⟨b0,o0,none⟩) R.length rc,.int .i64 o,.int .i64 Lq,.int .i64 b,.int .i64 c] p6 p7 A q (.slice aW n1 kc) kD (.slice rC uL cc') oq (.slice oa ol oc) ok w3):=(aO.out w3 hB3).2;clear hB3 aO;by_cases Gw:kD=R.length
    ·subst Gw
     have heq2:((R.length:Int)==(R.length:Int))=true:=by simp
     have HFin:Hid (leB R.length own aj q ks=(oq,ok)):=RU (by rw[lg.out.1,wT,if_pos rfl]);obtain⟨-,-,-,c3,c4⟩:=gY.out.cells;have hres:=gY.out.res;have y0:w3.cell? ⟨w.heap.size+1+1,0,none⟩=some (.int .i64 0):=ah hres rfl;have y1:w3.cell? ⟨w.heap.size+1+1,1,none⟩=some (.slice none 0 0):=ah hres rfl;have eB:w3.frozen? ⟨w.heap.size+1+1,0,none⟩=false:=bE hres;have eD:w3.frozen? ⟨w.heap.size+1+1,1,none⟩=false:=bE hres;have q0:=kW (v0:= .int .i64 (oq:Int)) (v1:= .slice oa ol oc) hres;have q1:=kX (v0:= .int .i64 (oq:Int)) (v1:= .slice oa ol oc) hres;clear hres;refine ax.last (i:=5) (by kernel_rfl) ⟨_,rfl,fun K hK=> ?_⟩
     go_simp
     refine hK.out _ _ (fun h=>absurd h (by omega)) (NoPanic.normal ?_);clear hK
     go_wp2_with fail
     refine bodyPost_ret (v:= .agg #[.int .i64 (oq:Int),.slice oa ol oc]) (by simp[results,Tryz.results155,go_sem,q0,q1]) rfl ?_;rw[HFin.out];have hlo:=gY.out.lo;refine⟨_,rfl,gY.out.A8.laid (fun h=> ?_) _ _ fun b hb=>hb.imp id fun h=>by omega,(gY.out.below.setCell (by simp only;omega) _).setCell (by simp only;omega) _⟩;rcases h with h|h
     ·have:=HA.out _ h;omega
     ·omega
    ·have hne:((kD:Int)==(R.length:Int))=false:=by simp;omega
     have hok1:=lg.out.2.2.2.2;obtain⟨q1,k1,e,-,hcf⟩:=wU hL hok1;injection e with e1 e2 _;subst e1 e2;obtain⟨Ms,ho⟩:=hcf.resolve_left fun h=>Gw h.1;obtain⟨hA1,l,hl1,qo⟩:=hL.qW kD Ms ho;obtain⟨n',ns',e,g1,g2,g3,g4⟩:=hok1;rw[qo,gT]at g3;obtain⟨X1,c1,Io,g5,g6⟩:=pX _ _ _ g3;obtain⟨oz,oC,rfl,-,-⟩:=wU hL g6;have hgo:(aN R.length own aj (.nd kD ow .no)).2 (.nd oq ok .no)=(aN R.length own aj (.nd oz oC .no)).2 (.nd kD (aF (.nd oq ok .no) (aN R.length own aj X1).1) .no):=by rw[wT,if_neg Gw,Io,(oZ hL g6).1,(oZ hL g6).2]
     have hlow:∀x∈aB l,x<(N:Int):=fun x hx=>RV hL Ms x (by rw[hl1];exact List.mem_cons_of_mem _ hx);have Sg:(ai ow).length=(ai X1).length+((ai oC).length+1):=by rw[Io,kP,List.length_append,ai,List.length_cons,List.length_append];rfl
     obtain⟨LL,ou,Bb⟩:=lg.out.2.2.2.1.list;rw[Io]at ou;obtain⟨L2,dv,rfl,hX1⟩:=R6 ou;obtain⟨m2,hm2⟩:∃m,L2.length=m:=⟨_,rfl⟩;have hcm2:uL=m2+1:=by obtain⟨_,_,h,_⟩:=Bb.form;injection h with _ h _;rw[List.length_append]at h;simp only[List.length_singleton]at h;omega
     have afI:m2<=2000:=by have h2:=qj L2;rw[hX1]at h2;have:=HK.out.2;have:=lg.out.2.2.1;omega
     obtain⟨da,dc,hdv,hdc,-⟩:=Bb.kids (dv,oz,oC) (by simp);have Mt:=Bb.kids (dv,oz,oC) (by simp);simp only at hdv Mt;obtain⟨dm,Si⟩:∃n,aS oC=n:=⟨_,rfl⟩;rw[Si]at hdv;subst hdv;subst hcm2
     have Sj:aG w A (.slice rC m2 cc') X1:=by
      have h0:bU w A (.slice rC (L2++[(Value.slice da dm dc,oz,oC)]).length cc') (L2++[(.slice da dm dc,oz,oC)]):=by rw[List.length_append,hm2];exact Bb
      have h1:=(h0.take (f:=m2) (by rw[List.length_append];omega)).fo;rw[<-hm2,List.take_left,hX1,hm2]at h1;exact h1
     have jZ:Hid (aG w A (.slice rC m2 cc') X1/\okF R' X1 (aB l)/\(∀x∈aB l,x<(N:Int))/\(ai ow).length=(ai X1).length+((ai oC).length+1)):=⟨Sj,g5,hlow,Sg⟩;have Bc:Hid (aG w A (.slice da dm dc) oC/\okF R' (.nd oz oC .no) [(N:Int)]/\(aN R.length own aj (.nd kD ow .no)).2 (.nd oq ok .no)=(aN R.length own aj (.nd oz oC .no)).2 (.nd kD (aF (.nd oq ok .no) (aN R.length own aj X1).1) .no)):=⟨Mt,g6,hgo⟩;have pa:=R3 (w:=w3) (n:=m2) (Bb.below gY.out.below) (by omega);simp only at pa;obtain⟨⟨x0,x1,x2,x3,x4,x5,x6,x7,x8⟩,x9,x10,x11,x12⟩:=gY.out.cells;obtain⟨uL,hcm'⟩:∃n,m2+1=n:=⟨_,rfl⟩;rw[hcm']at x10 pa gY;clear hcf Ms ho hA1 hl1 qo e g1 g2 g3 g4 Io g5 g6 hgo hlow Sg ou Bb hX1 hm2 hdc Mt Si Sj sJ hcm';refine ax.last (i:=5) (by kernel_rfl) ⟨_,rfl,fun K hK=> ?_⟩
     go_simp
     refine hK.out _ _ (fun h=>absurd h (by omega)) (NoPanic.normal ?_);clear hK
     go_upto_region 8 with
      (go_at_call 158;refine pa.mono ?_;rintro e w4 ⟨rfl,hB4⟩
       have Ej:=gY.out.next hB4;have sP:Hid (iM w #[.int .i64 T,.int .i64 Nn,.slice (some ⟨b0,o0,none⟩) R.length rc,.int .i64 o,.int .i64 Lq,.int .i64 b,.int .i64 c] p6 p7 A q (.slice aW n1 kc) kD (.slice rC uL cc') oq (.slice oa ol oc) ok w4):=Ej;obtain⟨-,y0,y1,-,-⟩:=Ej.cells;have eB:w4.frozen? ⟨p6,0,none⟩=false:=bE Ej.jY;have eD:w4.frozen? ⟨p6,1,none⟩=false:=bE Ej.jY
       clear pa hB4 Ej x0 x1 x2 x3 x4 x5 x6 x7 x8 x9 x10 x11 x12)
     obtain⟨W8,om⟩:∃V,(w4.setCell ⟨p6,0,none⟩ (.int .i64 (oz:Int))).setCell ⟨p6,1,none⟩ (.slice da dm dc)=V:=⟨_,rfl⟩;have Ip:=sP.out.aao HA.out (nq:=oz) (nv:= .slice da dm dc);rw[om]at Ip;rw[om];have El:Hid (iM w #[.int .i64 T,.int .i64 Nn,.slice (some ⟨b0,o0,none⟩) R.length rc,.int .i64 o,.int .i64 Lq,.int .i64 b,.int .i64 c] p6 p7 A q (.slice aW n1 kc) oz (.slice da dm dc) oq (.slice oa ol oc) ok W8):=Ip;clear Ip om y0 y1 eB eD sP gY;obtain⟨Wd,hWd⟩:∃V,W8.drew=V:=⟨_,rfl⟩;have hBd:Below W8.heap.size W8 Wd:=by rw[<-hWd];exact(Below.refl _ _).drew
     have dZ:=El.out.next hBd;have aO:Hid (∀wq,Below Wd.heap.size Wd wq->(nO w.heap.size T Nn o Lq b c (some ⟨b0,o0,none⟩) R.length rc q (.slice aW n1 kc) wq/\wq.cell? ⟨p7,0,none⟩=some (.int .i64 (oq:Int))/\wq.cell? ⟨p7,1,none⟩=some (.slice oa ol oc))/\iM w #[.int .i64 T,.int .i64 Nn,.slice (some ⟨b0,o0,none⟩) R.length rc,.int .i64 o,.int .i64 Lq,.int .i64 b,.int .i64 c] p6 p7 A q (.slice aW n1 kc) oz (.slice da dm dc) oq (.slice oa ol oc) ok wq):=fun wq hq=>⟨⟨(dZ.next hq).cells.1,(dZ.next hq).cells.2.2.2⟩,dZ.next hq⟩;have S0:=(aO.out Wd (Below.refl _ _)).1
     have HE2:Hid (∀wq,Below Wd.heap.size Wd wq->Calls Tryz.prog 141 #[.slice rC m2 cc',.func (.func 155) #[.agg #[.int .i64 T,.int .i64 Nn,.slice (some ⟨b0,o0,none⟩) R.length rc,.int .i64 o,.int .i64 Lq,.int .i64 b,.int .i64 c]] #[]] wq fun e w'=> ∃ov L',e= .returned ov/\gu w' wq.heap.size A ov L'/\rowOf L'=(aN R.length own aj X1).1/\L'.length<=2000/\Below wq.heap.size wq w'):=fun wq hq=>by
      have ji:Below w.heap.size w wq:=dZ.below.trans (hq.mono dZ.below.size);exact rA.out wq A _ X1 _ ji (jZ.out.1.below ji) (fun b hb=>Nat.lt_of_lt_of_le (HA.out b hb) ji.size) (by have:=jZ.out.2.2.2;have:=lg.out.2.2.1;omega) jZ.out.2.2.1 jZ.out.2.1
     have Bd:Hid (p7<Wd.heap.size/\p6<p7):=⟨dZ.hi,dZ.lt⟩;clear hBd dZ;refine iw [0,1,3,4,5] 6 10 (fun wq=>nO w.heap.size T Nn o Lq b c (some ⟨b0,o0,none⟩) R.length rc q (.slice aW n1 kc) wq/\wq.cell? ⟨p7,0,none⟩=some (.int .i64 (oq:Int))/\wq.cell? ⟨p7,1,none⟩=some (.slice oa ol oc)) (by kernel_rfl) (by kernel_rfl) (by rw[hWd];exact S0) ?_;rw[hWd];clear hWd S0
     iterate 5
      refine aU.gN (v:= ?_) rfl (by rfl) ?_ ?_;rotate_left
      ·intro w' hSw
       obtain⟨⟨z0,z1,z2,z3,z4,z5,z6,z7,z8⟩,z9,jK⟩:=hSw
       go_simp
       try with_reducible rfl
      simp only[Act.put,List.setIfInBounds_toArray,List.set_cons_zero,List.set_cons_succ]
     rw[aU];refine ax.two (i:=2) (i':=6) (by kernel_rfl) ⟨_,rfl,fun K hK=> ?_⟩ ⟨_,rfl,fun K hK=> ?_⟩
     ·have cZ:Below Wd.heap.size Wd (Wd.alloc (.cells #[.int .i64 (oq:Int),.slice oa ol oc] 73)):=(Below.refl _ _).alloc (Nat.le_refl _) _
      go_simp
      refine hK.out _ _ (fun _=>(aO.out _ cZ).1) ?_;clear hK;have hblk:=heap_alloc_new Wd (.cells #[.int .i64 (oq:Int),.slice oa ol oc] 73);obtain⟨pz,hpz⟩:∃x,Wd.heap.size=x:=⟨_,rfl⟩;obtain⟨wy,kZ⟩:∃V,Wd.alloc (.cells #[.int .i64 (oq:Int),.slice oa ol oc] 73)=V:=⟨_,rfl⟩;have Mw:Hid (Wd.heap.size<=pz):=by show _<=_;omega
      rw[kZ]at cZ hblk⊢;rw[hpz]at hblk⊢;clear kZ hpz;have ea:=HE2.out wy cZ;refine ax.one (i:=6) (by kernel_rfl) ⟨_,rfl,fun K hK=> ?_⟩
      go_simp
      refine ea.mono ?_;rintro e w4 ⟨rv,L',rfl,fH,hG4,hl4,hB4⟩;obtain⟨la,lc,hlv⟩:=aY fH.own;subst hlv;obtain⟨n4,jy⟩:∃n,L'.length=n:=⟨_,rfl⟩
      have jA:bU w4 (fun b=>A b\/Wd.heap.size<=b) (.slice la n4 lc) L':=by
       rw[<-jy];exact fH.kU.kept fun x hx _=>⟨rfl,hx.imp id fun h=>Nat.le_trans cZ.size h⟩
      rw[jy]at hl4⊢;dsimp only;have aP:Below Wd.heap.size Wd w4:=cZ.trans (hB4.mono cZ.size);refine hK.out _ _ (fun _=>(aO.out w4 aP).1) ?_;have vO:=(hB4.block _ (Array.getElem?_eq_some_iff.1 hblk).1).trans hblk;clear hK ea hblk fH hB4 cZ;have bD:Below w4.heap.size w4 (w4.alloc (.cells #[.slice (some ⟨pz,0,none⟩) 1 1,.slice la n4 lc] 71)):=(Below.refl _ _).alloc (Nat.le_refl _) _;have dh:Below Wd.heap.size Wd (w4.alloc (.cells #[.slice (some ⟨pz,0,none⟩) 1 1,.slice la n4 lc] 71)):=aP.trans (bD.mono aP.size);refine ax.one (i:=7) (by kernel_rfl) ⟨_,rfl,fun K hK=> ?_⟩
      go_simp
      refine hK.out _ _ (fun _=>(aO.out _ dh).1) ?_;clear hK;have dK:=heap_alloc_new w4 (.cells #[.slice (some ⟨pz,0,none⟩) 1 1,.slice la n4 lc] 71);obtain⟨p8,Em⟩:∃x,w4.heap.size=x:=⟨_,rfl⟩;obtain⟨w7,hw7⟩:∃V,w4.alloc (.cells #[.slice (some ⟨pz,0,none⟩) 1 1,.slice la n4 lc] 71)=V:=⟨_,rfl⟩;rw[hw7]at bD dh dK⊢;rw[Em]at dK⊢;have En:=(bD.block _ (Array.getElem?_eq_some_iff.1 vO).1).trans vO;clear hw7 vO
      have Eo:=Rq (w:=w7) (pb:=p8) (A:=fun b=>A b\/(p6<b/\b≠p7)) (La:=[(.slice oa ol oc,oq,ok)]) (Lb:=L') (ah (i:=0) dK rfl) (ah (i:=1) dK rfl)
       (Hz En (.inr (by have:=Mw.out;have:=Bd.out;omega)) (aO.out w7 dh).2.A8)
       ((jA.below bD).kept fun x hx _=>⟨rfl,hx.imp id fun h=>by have:=Bd.out;omega⟩)
       (by simp only[List.length_singleton];omega)
      clear dK En Em jA;refine ax.one (i:=8) (by kernel_rfl) ⟨_,rfl,fun K hK=> ?_⟩
      go_simp
      refine Eo.mono ?_;rintro e w8 ⟨a8,n8,d8,rfl,mX,gW⟩;dsimp only;have gX:Below Wd.heap.size Wd w8:=dh.trans (gW.mono dh.size);refine hK.out _ _ (fun _=>(aO.out _ gX).1) ?_;clear hK Eo
      have zb:Hid (iM w #[.int .i64 T,.int .i64 Nn,.slice (some ⟨b0,o0,none⟩) R.length rc,.int .i64 o,.int .i64 Lq,.int .i64 b,.int .i64 c] p6 p7 A q (.slice aW n1 kc) oz (.slice da dm dc) oq (.slice oa ol oc) ok w8/\aG w8 (fun b=>A b\/(p6<b/\b≠p7)) (.slice a8 n8 d8) (aF (.nd oq ok .no) (aN R.length own aj X1).1)):=by
       refine⟨(aO.out w8 gX).2,?_⟩;have h1:=mX.fo;rw[ul,rowOf,rowOf,hG4]at h1;refine h1.kept fun x hx _=>⟨rfl,?_⟩;rcases hx with hx|hx
       ·exact hx
       ·have h2:=dh.size
        have:=Bd.out;exact .inr (by omega)
      have hout:=zb.out.1.out;have y0:w8.cell? ⟨p7,0,none⟩=some (.int .i64 (oq:Int)):=ah hout rfl;have y1:w8.cell? ⟨p7,1,none⟩=some (.slice oa ol oc):=ah hout rfl;have eB:w8.frozen? ⟨p7,0,none⟩=false:=bE hout;have eD:w8.frozen? ⟨p7,1,none⟩=false:=bE hout;refine ax.one (i:=9) (by kernel_rfl) ⟨_,rfl,fun K hK=> ?_⟩
      go_simp
      refine hK.out _ _ (fun _=>(aO.out _ gX).1) ?_;clear hK mX gW hout hG4;refine ax.last (i:=10) (by kernel_rfl) ⟨_,rfl,fun K hK=> ?_⟩
      go_simp
      refine hK.out _ _ (fun h=>absurd h (by omega)) (NoPanic.normal ?_);clear hK
      go_wp2_with fail
      go_roundg ((ai oC).length)
      case rel=>
       exact⟨oz,da,dm,dc,oC,kD,_,_,rfl,zb.out.1.R4 HA.out zb.out.2,Bc.out.1,Bc.out.2.1,lg.out.1.trans Bc.out.2.2,by have:=jZ.out.2.2.2;have:=lg.out.2.2.1;omega⟩
      case measure=>
       have h1:=lg.out.2.1;have h2:=jZ.out.2.2.2;omega
     ·have ea:=HE2.out Wd (Below.refl _ _)
      go_simp
      refine ea.mono ?_;rintro e w5 ⟨rv,L',rfl,fH,hG4,hl4,hB4⟩;obtain⟨la,lc,hlv⟩:=aY fH.own;subst hlv;obtain⟨n4,jy⟩:∃n,L'.length=n:=⟨_,rfl⟩;rw[jy]at hl4⊢;dsimp only;refine hK.out _ _ (fun _=>(aO.out w5 hB4).1) ?_;clear hK ea;have aP:Below Wd.heap.size Wd (w5.alloc (.cells #[.int .i64 (oq:Int),.slice oa ol oc] 73)):=hB4.alloc hB4.size _
      have jA:bU (w5.alloc (.cells #[.int .i64 (oq:Int),.slice oa ol oc] 73)) (fun b=>A b\/Wd.heap.size<=b) (.slice la n4 lc) L':=by
       rw[<-jy];exact fH.kU.below ((Below.refl _ _).alloc (Nat.le_refl _) _)
      refine ax.one (i:=2) (by kernel_rfl) ⟨_,rfl,fun K hK=> ?_⟩
      go_simp
      refine hK.out _ _ (fun _=>(aO.out _ aP).1) ?_;clear hK;have vO:=heap_alloc_new w5 (.cells #[.int .i64 (oq:Int),.slice oa ol oc] 73);obtain⟨pz,hpz⟩:∃x,w5.heap.size=x:=⟨_,rfl⟩;obtain⟨w4,hw4⟩:∃V,w5.alloc (.cells #[.int .i64 (oq:Int),.slice oa ol oc] 73)=V:=⟨_,rfl⟩;have Mw:Hid (Wd.heap.size<=pz):=by show _<=_;rw[<-hpz];exact hB4.size
      rw[hw4]at aP vO jA⊢;rw[hpz]at vO⊢;clear hw4 hpz fH hB4;have bD:Below w4.heap.size w4 (w4.alloc (.cells #[.slice (some ⟨pz,0,none⟩) 1 1,.slice la n4 lc] 71)):=(Below.refl _ _).alloc (Nat.le_refl _) _;have dh:Below Wd.heap.size Wd (w4.alloc (.cells #[.slice (some ⟨pz,0,none⟩) 1 1,.slice la n4 lc] 71)):=aP.trans (bD.mono aP.size);refine ax.one (i:=7) (by kernel_rfl) ⟨_,rfl,fun K hK=> ?_⟩
      go_simp
      refine hK.out _ _ (fun _=>(aO.out _ dh).1) ?_;clear hK;have dK:=heap_alloc_new w4 (.cells #[.slice (some ⟨pz,0,none⟩) 1 1,.slice la n4 lc] 71);obtain⟨p8,Em⟩:∃x,w4.heap.size=x:=⟨_,rfl⟩;obtain⟨w7,hw7⟩:∃V,w4.alloc (.cells #[.slice (some ⟨pz,0,none⟩) 1 1,.slice la n4 lc] 71)=V:=⟨_,rfl⟩;rw[hw7]at bD dh dK⊢;rw[Em]at dK⊢;have En:=(bD.block _ (Array.getElem?_eq_some_iff.1 vO).1).trans vO;clear hw7 vO
      have Eo:=Rq (w:=w7) (pb:=p8) (A:=fun b=>A b\/(p6<b/\b≠p7)) (La:=[(.slice oa ol oc,oq,ok)]) (Lb:=L') (ah (i:=0) dK rfl) (ah (i:=1) dK rfl)
       (Hz En (.inr (by have:=Mw.out;have:=Bd.out;omega)) (aO.out w7 dh).2.A8)
       ((jA.below bD).kept fun x hx _=>⟨rfl,hx.imp id fun h=>by have:=Bd.out;omega⟩)
       (by simp only[List.length_singleton];omega)
      clear dK En Em jA;refine ax.one (i:=8) (by kernel_rfl) ⟨_,rfl,fun K hK=> ?_⟩
      go_simp
      refine Eo.mono ?_;rintro e w8 ⟨a8,n8,d8,rfl,mX,gW⟩;dsimp only;have gX:Below Wd.heap.size Wd w8:=dh.trans (gW.mono dh.size);refine hK.out _ _ (fun _=>(aO.out _ gX).1) ?_;clear hK Eo
      have zb:Hid (iM w #[.int .i64 T,.int .i64 Nn,.slice (some ⟨b0,o0,none⟩) R.length rc,.int .i64 o,.int .i64 Lq,.int .i64 b,.int .i64 c] p6 p7 A q (.slice aW n1 kc) oz (.slice da dm dc) oq (.slice oa ol oc) ok w8/\aG w8 (fun b=>A b\/(p6<b/\b≠p7)) (.slice a8 n8 d8) (aF (.nd oq ok .no) (aN R.length own aj X1).1)):=by
       refine⟨(aO.out w8 gX).2,?_⟩;have h1:=mX.fo;rw[ul,rowOf,rowOf,hG4]at h1;refine h1.kept fun x hx _=>⟨rfl,?_⟩;rcases hx with hx|hx
       ·exact hx
       ·have h2:=dh.size
        have:=Bd.out;exact .inr (by omega)
      have hout:=zb.out.1.out;have y0:w8.cell? ⟨p7,0,none⟩=some (.int .i64 (oq:Int)):=ah hout rfl;have y1:w8.cell? ⟨p7,1,none⟩=some (.slice oa ol oc):=ah hout rfl;have eB:w8.frozen? ⟨p7,0,none⟩=false:=bE hout;have eD:w8.frozen? ⟨p7,1,none⟩=false:=bE hout;refine ax.one (i:=9) (by kernel_rfl) ⟨_,rfl,fun K hK=> ?_⟩
      go_simp
      refine hK.out _ _ (fun _=>(aO.out _ gX).1) ?_;clear hK mX gW hout hG4;refine ax.last (i:=10) (by kernel_rfl) ⟨_,rfl,fun K hK=> ?_⟩
      go_simp
      refine hK.out _ _ (fun h=>absurd h (by omega)) (NoPanic.normal ?_);clear hK
      go_wp2_with fail
      go_roundg ((ai oC).length)
      case rel=>
       exact⟨oz,da,dm,dc,oC,kD,_,_,rfl,zb.out.1.R4 HA.out zb.out.2,Bc.out.1,Bc.out.2.1,lg.out.1.trans Bc.out.2.2,by have:=jZ.out.2.2.2;have:=lg.out.2.2.1;omega⟩
      case measure=>
       have h1:=lg.out.2.1;have h2:=jZ.out.2.2.2;omega
 ·have hne:(Lq==a)=false:=by simpa using eF
  have hG:leB R.length own aj q ks=(q,(aN R.length own aj ks).1):=RU hres;rw[hG];have HQ:Hid (okF R' ks (aB (R.getD q (0,[])).2)):=R9;clear hG jH eF uJ h1 R9 hres hR hown
  go_enter Tryz.func155,Tryz.ntmps155
  go_upto_region 1 with fail
  go_big_quiet (fail)
  go_upto_region 2 with fail
  obtain⟨V0,oo⟩:∃V,W.drewN nq=V:=⟨_,rfl⟩;have hB0:Below W.heap.size W V0:=by rw[<-oo];exact below_drewN (Below.refl _ _) _
  rw[oo];clear oo;obtain⟨Wd,hWd⟩:∃V,V0.drew=V:=⟨_,rfl⟩;have hBd:Below W.heap.size W Wd:=by rw[<-hWd];exact hB0.drew
  have S0:=(HS.out Wd hBd).1;have ji:Below w.heap.size w Wd:=HM.out.1.trans (hBd.mono HM.out.1.size);have ea:=rA.out Wd A (.slice aW n1 kc) ks _ ji (HK.out.1.below ji) (fun b hb=>Nat.lt_of_lt_of_le (HA.out b hb) ji.size) (Nat.le_refl _) R7.out HQ.out;have eP:Hid (Below W.heap.size W Wd):=hBd;clear hBd hB0 ji x0 x1 x2 x3 x4 x5 x6 x7 x8 hW k1 rA;refine iw [0,1,2,3,4,5] 3 8 (nO w.heap.size T Nn o a b c (some ⟨b0,o0,none⟩) R.length rc q (.slice aW n1 kc)) (by kernel_rfl) (by kernel_rfl) (by rw[hWd];exact S0) ?_;rw[hWd];clear hWd S0
  iterate 6
   refine aU.gN (v:= ?_) rfl (by rfl) ?_ ?_;rotate_left
   ·intro w' hSw
    obtain⟨z0,z1,z2,z3,z4,z5,z6,z7,z8⟩:=hSw
    go_simp
    try with_reducible rfl
   simp only[Act.put,List.setIfInBounds_toArray,List.set_cons_zero,List.set_cons_succ]
  rw[aU];refine ax.one (i:=6) (by kernel_rfl) ⟨_,rfl,fun K hK=> ?_⟩
  go_simp
  refine ea.mono ?_;rintro e w3 ⟨rv,L',rfl,bY,hG3,-,hB3⟩;obtain⟨la,lc,hlv⟩:=aY bY.own;subst hlv;obtain⟨n3,jv⟩:∃n,L'.length=n:=⟨_,rfl⟩;rw[jv]at bY⊢;dsimp only;have hW3:Below W.heap.size W w3:=eP.out.trans (hB3.mono eP.out.size);refine hK.out _ _ (fun _=>(HS.out w3 hW3).1) ?_;clear hK ea;have hres:=(HS.out w3 hW3).2;have y0:w3.cell? ⟨w.heap.size+1+1,0,none⟩=some (.int .i64 0):=ah hres rfl;have y1:w3.cell? ⟨w.heap.size+1+1,1,none⟩=some (.slice none 0 0):=ah hres rfl;have eB:w3.frozen? ⟨w.heap.size+1+1,0,none⟩=false:=bE hres;have eD:w3.frozen? ⟨w.heap.size+1+1,1,none⟩=false:=bE hres;have q0:=kW (v0:= .int .i64 (q:Int)) (v1:= .slice la n3 lc) hres;have q1:=kX (v0:= .int .i64 (q:Int)) (v1:= .slice la n3 lc) hres;refine ax.one (i:=7) (by kernel_rfl) ⟨_,rfl,fun K hK=> ?_⟩
  go_simp
  refine hK.out _ _ (fun _=>(HS.out w3 hW3).1) ?_;clear hK
  have HT:Hid (aG w3 (fun b=>A b\/W.heap.size<=b) (.slice la n3 lc) (aN R.length own aj ks).1/\Below W.heap.size W w3):=by
   refine⟨?_,hW3⟩;have h1:=bY.kU.fo;rw[hG3]at h1;exact h1.kept fun x hx _=>⟨rfl,hx.imp id fun h=>Nat.le_trans eP.out.size h⟩
  clear bY hG3 hB3 jv hres hW3;refine ax.last (i:=8) (by kernel_rfl) ⟨_,rfl,fun K hK=> ?_⟩
  go_simp
  refine hK.out _ _ (fun h=>absurd h (by omega)) (NoPanic.normal ?_);clear hK
  go_wp2_with fail
  refine bodyPost_ret (v:= .agg #[.int .i64 (q:Int),.slice la n3 lc]) (by simp[results,Tryz.results155,go_sem,q0,q1]) rfl ?_;have hz:=HM.out.2.1;exact⟨_,rfl,HT.out.1.rz HA.out hz _ _,((HM.out.1.trans (HT.out.2.mono HM.out.1.size)).setCell (by simp;omega) _).setCell (by simp;omega) _⟩
end
end Go.Proofs.YtpkmpkphfflpjaaGreat
