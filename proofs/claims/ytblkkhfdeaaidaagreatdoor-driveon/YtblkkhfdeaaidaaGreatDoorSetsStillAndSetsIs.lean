import Derived.Test.YtblkkhfdeaaidaaGreatDoorSetsPutAndSetsMath
import Derived.Test.YtblkkhfdeaaidaaGreatDoorLooksMathAndTabMath
set_option maxHeartbeats 3200000
set_option maxRecDepth 100000
namespace Go.Proofs.YtblkkhfdeaaidaaGreatDoor
open Go.RowKit
section
variable{T N:Nat}{nv:Value}{vf vg:Nat->Value}{gb:Nat}
structure Env(w:World)(B T N:Nat)(K:Nat->Prop)(gx sx:Nat)(rv nv fv gv:Value)(vf vg:Nat->Value)(R:List Ru):Prop where
 g2:w.cell? ⟨gx,2,none⟩=some rv
 s0:w.cell? ⟨sx,0,none⟩=some nv
 s1:w.cell? ⟨sx,1,none⟩=some fv
 s2:w.cell? ⟨sx,2,none⟩=some gv
 gK:¬K gx
 sK:¬K sx
 hr:au w B rv R
 hF:iV w K N fv vf
 hG:iV w K N gv vg
theorem Env.kept{w w':World}{B:Nat}{K:Nat->Prop}{gx sx:Nat}{rv nv fv gv:Value}{R:List Ru}(h:Env w B T N K gx sx rv nv fv gv vf vg R)(hk:Kept K w w')(hB:∀b,K b->B<=b)(hs:B<=w.heap.size):Env w' B T N K gx sx rv nv fv gv vf vg R:=
 ⟨hk.cell h.gK h.g2,hk.cell h.sK h.s0,hk.cell h.sK h.s1,hk.cell h.sK h.s2,h.gK,h.sK,h.hr.below (hk.below hB hs),h.hF.kept hk,h.hG.kept hk⟩
theorem ack{w:World}{B gx sx qc:Nat}{qa:Option Addr}{rv fv gv:Value}{X:Xs}{R:List Ru}{r:Ru}(h:Bt w B (ay T N nv vf vg gb) X)(hB:B<=w.heap.size)(hE:Env w B T N (ay T N nv vf vg gb).K gx sx rv nv fv gv vf vg R)
 (uK:tY T N r) (h8:r.2.length<=8) (hT:T<=8) (hR:fq w B qa r.2) (hqc:r.2.length<=qc):
 Calls Tryz.prog 52 #[.agg #[.int .i64 r.1,.slice qa r.2.length qc],.func (.func 73) #[] #[.pointer (some ⟨gb,0,none⟩)],.pointer (some ⟨sx,0,none⟩)] w fun e w'=>
  e= .returned (.tuple #[])/\Bt w' B (ay T N nv vf vg gb) (vN T r X)/\Kept (ay T N nv vf vg gb).K w w':=by
 obtain⟨L,Rt⟩:=r;obtain⟨hL,lq⟩:=uK;simp only at hL lq h8 hR hqc⊢;obtain⟨l,rfl⟩:∃l:Nat,L=l:=⟨L.toNat,by omega⟩;have Cz:l<N:=by omega
 obtain⟨na,nc,rM⟩:=Bt.slice (i:=Iy.null) (n:=N) h rfl;have ze:nv= .slice na N nc:=rM;obtain⟨fa,fc,o8⟩:=hE.hF.1;obtain⟨ga,gc,hgv⟩:=hE.hG.1;clear rM;subst ze;subst o8;subst hgv;have hK1:Kept (ay T N (.slice na N nc) vf vg gb).K w (w.alloc (.cells #[.int .i64 l,.slice qa Rt.length qc] 91)):=(Kept.refl _ _).alloc _;have hE1:=hE.kept hK1 (fun b hb=>Bt.ge h hb) hB;have oW:=hR.below (hK1.below (fun b hb=>Bt.ge h hb) hB);have ahead:=ab6 (w:=w.alloc (.cells #[.int .i64 l,.slice qa Rt.length qc] 91)) (B:=B) (lc:=qc) (L:=l) (gl:=N) (gc:=gc) (ga:=ga) (la:=qa) (l:=Rt) (Bt.alloc h _) (by simp;omega) Cz hE1.hF oW lq (by omega) (by omega);have HS:Hid (vN T ((l:Int),Rt) X=G9 T l Rt (jy T l Rt X)):=by show vN T ((l:Int),Rt) X=_;simp[vN]
 have s0:=hE1.s0;have s1:=hE1.s1;have s2:=hE1.s2;have wS:Hid (Env (w.alloc (.cells #[.int .i64 l,.slice qa Rt.length qc] 91)) B T N (ay T N (.slice na N nc) vf vg gb).K gx sx rv (.slice na N nc) (.slice fa N fc) (.slice ga N gc) vf vg R):=hE1;have HRt:Hid (qE T N Rt):=lq;have HRA:Hid (fq (w.alloc (.cells #[.int .i64 l,.slice qa Rt.length qc] 91)) B qa Rt):=oW;have gq:Hid (Kept (ay T N (.slice na N nc) vf vg gb).K w (w.alloc (.cells #[.int .i64 l,.slice qa Rt.length qc] 91))):=hK1;have HB:Hid (Bt w B (ay T N (.slice na N nc) vf vg gb) X):=h;clear hE hE1 hK1 lq hR oW h
 go_enter Tryz.func52,Tryz.ntmps52
 go_wp2_with
  (first
   |(go_at_call 53;refine ahead.mono ?_;rintro e w2 ⟨rfl,hB2,hK2⟩
     have q0:=hK2.cell wS.out.sK s0;have q1:=hK2.cell wS.out.sK s1;have q2:=hK2.cell wS.out.sK s2;have q3:=hK2.cell (p:=⟨w.heap.size,0,none⟩) (Bt.gU HB.out (Nat.le_refl _)) (v:= .int .i64 l) (by simp[go_sem]);have q4:=hK2.cell (p:=⟨w.heap.size,1,none⟩) (Bt.gU HB.out (Nat.le_refl _)) (v:= .slice qa Rt.length qc) (by simp[go_sem]);have hsz2:=hK2.size;have HB2:Hid (Bt w2 B (ay T N (.slice na N nc) vf vg gb) (jy T l Rt X)):=hB2;have dP:Hid (Kept (ay T N (.slice na N nc) vf vg gb).K (w.alloc (.cells #[.int .i64 l,.slice qa Rt.length qc] 91)) w2):=hK2;simp only[World.size_alloc]at hsz2
     clear hB2 hK2 ahead s0 s1 s2)
   |(go_at_call 54
     refine(ab8 (B:=B) (T:=T) (N:=N) (vf:=vf) (vg:=vg) (gb:=gb) (X:=jy T l Rt X) (l:=Rt) HB2.out ?_ Cz hqc (wS.out.kept dP.out ?_ ?_).hF (wS.out.kept dP.out ?_ ?_).hG (HRA.out.below (dP.out.below ?_ ?_)) HRt.out ?_ ?_).mono ?_
     ·omega
     ·exact fun b hb=>Bt.ge HB.out hb
     ·simp;omega
     ·exact fun b hb=>Bt.ge HB.out hb
     ·simp;omega
     ·exact fun b hb=>Bt.ge HB.out hb
     ·simp;omega
     ·omega
     ·omega
     rintro e w3 ⟨rfl,hB3,hK3⟩))
 go_end0
 exact⟨rfl,by rw[HS.out];exact hB3,(gq.out.trans dP.out).trans hK3⟩
structure ow(T N:Nat)(R:List Ru)(X:Xs):Prop where
 bU:iK T N X
 snd:ku T N R X
 held:bit X .gr 0=false->∀q,q<R.length->Held T (R.getD q (0,[])) X
 fin:bit X (.g 0) T=true
def kR(T N:Nat)(X:Xs):Nat:=2*left T N X+if bit X .gr 0 then 1 else 0
theorem ow.next{R:List Ru}(hf:bM T N R)(hR:∀q,q<R.length->tY T N (R.getD q (0,[]))){X:Xs}(h:ow T N R X)(hg:bit X .gr 0=true):
 ow T N R (Bg T R R.length (aU X .gr 0 false))/\kR T N (Bg T R R.length (aU X .gr 0 false))<kR T N X:=by
 have hl:=h.bU .gr 1 rfl;have s1:iK T N (aU X .gr 0 false):=fun i n hd=>by rw[qN];exact h.bU i n hd
 have n1:ku T N R (aU X .gr 0 false):=fun i n m hd hm hb=>by
  rw[gV (by omega)]at hb;by_cases c:i= .gr/\m=0
  ·rw[if_pos c]at hb;cases hb
  ·rw[if_neg c]at hb;exact h.snd i n m hd hm hb
 have g1:bit (aU X .gr 0 false) .gr 0=false:=by rw[gV (by omega)];simp
 have f1:bit (aU X .gr 0 false) (.g 0) T=true:=by rw[gV (by omega),if_neg (by simp)];exact h.fin
 obtain⟨u1,u2⟩:=ab9 hR s1;refine⟨⟨u1.bU,acf hf hR s1 n1,fun hz=> ?_,u1.up _ _ f1⟩,?_⟩
 ·rw[u1.still hz];exact u2 hz
 ·have e:=acj (v:=false) h.bU
  unfold kR;rw[hg];cases hz:bit (Bg T R R.length (aU X .gr 0 false)) .gr 0 with
  |true=>have:=aci u1 g1 hz;simp only[if_true];omega
  |false=>rw[u1.still hz];simp only[if_true,Bool.false_eq_true,if_false];omega
theorem acn{w:World}{B gx sx:Nat}{rv fv gv:Value}{X:Xs}{R:List Ru}(h:Bt (w.alloc (.cells #[.bool true] 4)) B (ay T N nv vf vg w.heap.size) X)(hB:B<=w.heap.size)
 (hE:Env (w.alloc (.cells #[.bool true] 4)) B T N (ay T N nv vf vg w.heap.size).K gx sx rv nv fv gv vf vg R) (hf:bM T N R) (hR:∀q,q<R.length->tY T N (R.getD q (0,[]))/\(R.getD q (0,[])).2.length<=8) (hT:T<=8) (zT:R.length<=40) (hA:ow T N R X):
 Calls Tryz.prog 51 #[rv,.func (.func 52) #[] #[.pointer (some ⟨sx,0,none⟩)]] w fun e w'=>
  e= .returned (.tuple #[])/\∃Y,ow T N R Y/\bit Y .gr 0=false/\Bt w' B (ay T N nv vf vg w.heap.size) Y/\Kept (ay T N nv vf vg w.heap.size).K (w.alloc (.cells #[.bool true] 4)) w':=by
 refine LG (f:=vN T) (kR:=kR T N) h hB (LK _ _ _ _ _ _) hE.hr (by omega) (fun k hk w1 Y qa qc hK kz Ei hqc=> ?_) (fun args w=>by simp[callFunc,Tryz.func52,Tryz.f52 ]) hA (fun Y hY hg=>hY.next hf (fun q hq=>(hR q hq).1) hg);have e:∀a b c:Value,#[a,b]++ #[c]= #[a,b,c]:=fun a b c=>by simp
 rw[e];have hs:=hK.size;simp only[World.size_alloc]at hs;exact ack kz (by omega) (hE.kept hK (fun b hb=>Bt.ge h hb) (by simp;omega)) (hR k hk).1 (hR k hk).2 hT Ei hqc
end
def nA:Iy->Option Ix
 | .null=>some .null
 | .gr=>none
 | .f n=>some (.f n)
 | .g n=>some (.g n)
def tabs(Nu:List Bool)(Fi Fo:List (List Bool)):Xs
 | .null=>Nu
 | .gr=>[true]
 | .f n=>Fi.getD n []
 | .g n=>Fo.getD n []
section
variable{w:World}{B sb T N:Nat}{nv fv gv:Value}{vf vg:Nat->Value}{Nu:List Bool}{Fi Fo:List (List Bool)}
theorem LZ(gb:Nat)(i:Iy)(x:Ix)(hx:nA i=some x):(ay T N nv vf vg gb).P (tabs Nu Fi Fo) i=bB sb T N N N nv fv gv vf vg Nu Fi Fo x:=by
 cases i with
 |gr=>cases hx
 |null=>cases hx;rfl
 |f n=>cases hx;simp only[dw.P,ay,bA,bB,tabs];split<;>rfl
 |g n=>cases hx;simp only[dw.P,ay,bA,bB,tabs];split<;>rfl
theorem aco(h:ah w B (bB sb T N N N nv fv gv vf vg Nu Fi Fo))(hB:B<=w.heap.size):Bt (w.alloc (.cells #[.bool true] 4)) B (ay T N nv vf vg w.heap.size) (tabs Nu Fi Fo):=by
 have row:∀i x r,nA i=some x->(ay T N nv vf vg w.heap.size).P (tabs Nu Fi Fo) i=some r->bB sb T N N N nv fv gv vf vg Nu Fi Fo x=some r:=fun i x r hx hr=>(LZ (sb:=sb) (fv:=fv) (gv:=gv) w.heap.size i x hx).symm.trans hr;have gr:∀r,(ay T N nv vf vg w.heap.size).P (tabs Nu Fi Fo) .gr=some r->r=⟨.slice (some ⟨w.heap.size,0,none⟩) 1 1,4,1,1,[.bool true]⟩:=fun r hr=>by cases hr;rfl
 have Hq:∀i,nA i=none->i= .gr:=fun i hi=>by cases i<;>first|rfl|cases hi
 refine⟨fun i r hr=> ?_,fun i j a b hij ha hb g h1 h2=> ?_⟩
 ·cases hx:nA i with
  |some x=>exact(h.own x r (row i x r hx hr)).alloc _
  |none=>
   obtain rfl:=Hq i hx;obtain rfl:=gr r hr;have:=World.ownsRow_lit (base:=B) (e:=4) (size:=1) w #[.bool true] 1 hB (by unfold maxLen;omega) rfl;simpa using this
 ·cases hx:nA i with
  |some x=>
   have l1:=(h.lt (row i x a hx ha) h1).2;cases hy:nA j with
   |some y=>
    refine h.apart x y a b (fun e=>hij ?_) (row i x a hx ha) (row j y b hy hb) g h1 h2;subst e;cases i<;>cases j<;>simp[nA]at hx hy<;>subst hx<;>simp_all
   |none=>
    obtain rfl:=Hq j hy;obtain rfl:=gr b hb;simp only[Value.ownBlock,Option.some.injEq]at h2;omega
  |none=>
   obtain rfl:=Hq i hx;obtain rfl:=gr a ha;simp only[Value.ownBlock,Option.some.injEq]at h1;cases hy:nA j with
   |some y=>
    have l1:=(h.lt (row j y b hy hb) h2).2;omega
   |none=>exact hij (Hq j hy).symm
theorem TS(h:ah w B (bB sb T N N N nv fv gv vf vg Nu Fi Fo)){x:Ix}{r:Row}(hx:bB sb T N N N nv fv gv vf vg Nu Fi Fo x=some r)(hn:∀i,nA i≠some x){g:Nat}(hg:r.v.ownBlock=some g):¬(ay T N nv vf vg w.heap.size).K g:=by
 rintro ⟨i,n,hd,hb⟩;cases hi:nA i with
 |some y=>
  have hP:(ay T N nv vf vg w.heap.size).P (tabs Nu Fi Fo) i=some ⟨(ay T N nv vf vg w.heap.size).V i,4,1,n,(tabs Nu Fi Fo i).map Value.bool⟩:=dw.yC hd;rw[LZ (sb:=sb) (fv:=fv) (gv:=gv) _ i y hi]at hP;exact h.apart y x _ _ (fun e=>hn i (e▸hi)) hP hx g hb hg
 |none=>
  cases i<;>simp[nA]at hi;have:=(h.lt hx hg).2;simp only[ay,Value.ownBlock,Option.some.injEq]at hb;omega
theorem acp(h:ah w B (bB sb T N N N nv fv gv vf vg Nu Fi Fo))(o:Obj):iV (w.alloc o) (ay T N nv vf vg w.heap.size).K N fv vf:=by
 have hh:w.ownsRow B 53 1 fv N ((List.range N).map vf):=h.own .fh _ rfl;refine⟨bK hh,fun n hn=> ?_⟩;obtain⟨g,cap,hv,_,hlt⟩:=hh.form (by omega);refine⟨g,cap,hv,TS h (x:= .fh) rfl (fun i=>by cases i<;>simp[nA]) (by simp only;rw[hv];rfl),?_⟩;rw[World.cell?_alloc_past _ _ _ hlt];rw[hv]at hh;rw[hh.cellAt n (by omega)];simp[hn]
theorem acr(h:ah w B (bB sb T N N N nv fv gv vf vg Nu Fi Fo))(o:Obj):iV (w.alloc o) (ay T N nv vf vg w.heap.size).K N gv vg:=by
 have hh:w.ownsRow B 53 1 gv N ((List.range N).map vg):=h.own .gh _ rfl;refine⟨bK hh,fun n hn=> ?_⟩;obtain⟨g,cap,hv,_,hlt⟩:=hh.form (by omega);refine⟨g,cap,hv,TS h (x:= .gh) rfl (fun i=>by cases i<;>simp[nA]) (by simp only;rw[hv];rfl),?_⟩;rw[World.cell?_alloc_past _ _ _ hlt];rw[hv]at hh;rw[hh.cellAt n (by omega)];simp[hn]
theorem acs{i:Iy}{m:Nat}(hi:i≠ .gr):bit (tabs (List.replicate N false) (List.replicate N (List.replicate T false)) (List.replicate N (List.replicate (T+1) false))) i m=false:=by
 have jo:∀(n k:Nat),(List.replicate n false).getD k false=false:=fun n k=>by
  by_cases h:k<n
  ·simp[List.getD,h]
  ·simp[List.getD,List.getElem?_eq_none (show (List.replicate n false).length<=k by simp;omega)]
 have TT:∀(n q k j:Nat),((List.replicate n (List.replicate q false)).getD k []).getD j false=false:=fun n q k j=>by
  by_cases h:k<n
  ·have:(List.replicate n (List.replicate q false)).getD k []=List.replicate q false:=by simp[List.getD,h]
   rw[this];exact jo _ _
  ·have:(List.replicate n (List.replicate q false)).getD k []=[]:=by simp[List.getD,List.getElem?_eq_none (show (List.replicate n (List.replicate q false)).length<=k by simp;omega)]
   rw[this];simp
 cases i with
 |gr=>exact absurd rfl hi
 |null=>exact jo _ _
 |f n=>exact TT _ _ _ _
 |g n=>exact TT _ _ _ _
theorem acu:tabs Nu Fi (set2 Fo 0 T)=if 0<Fo.length then aU (tabs Nu Fi Fo) (.g 0) T true else tabs Nu Fi Fo:=by
 funext i
 cases i with
 |g n=>
  simp only[tabs];rw[Dk];by_cases h:0<Fo.length
  ·rw[if_pos h]
   by_cases hn:n=0
   ·subst hn;rw[if_pos ⟨rfl,h⟩];simp[aU,tabs]
   ·rw[if_neg (fun e=>hn e.1)];simp[aU,tabs,hn]
  ·rw[if_neg h,if_neg (fun e=>h e.2)];rfl
 |_=>split<;>simp[tabs,aU]
theorem acv{R:List Ru}(hf:bM T N R):ow T N R (tabs (List.replicate N false) (List.replicate N (List.replicate T false)) (set2 (List.replicate N (List.replicate (T+1) false)) 0 T)):=by
 have h1:=hf.some;have e:=acu (T:=T) (Nu:=List.replicate N false) (Fi:=List.replicate N (List.replicate T false)) (Fo:=List.replicate N (List.replicate (T+1) false));rw[if_pos (by simp;omega)]at e;rw[e];have hlen:(tabs (List.replicate N false) (List.replicate N (List.replicate T false)) (List.replicate N (List.replicate (T+1) false)) (.g 0)).length=T+1:=by simp[tabs,List.getD,show 0<N by omega]
 have hb:∀i m,bit (aU (tabs (List.replicate N false) (List.replicate N (List.replicate T false)) (List.replicate N (List.replicate (T+1) false))) (.g 0) T true) i m=if i= .g 0/\m=T then true else bit (tabs (List.replicate N false) (List.replicate N (List.replicate T false)) (List.replicate N (List.replicate (T+1) false))) i m:=fun i m=>gV (by omega)
 refine⟨fun i n hd=> ?_,fun i n m hd hm hbt=> ?_,fun hz=> ?_,by rw[hb];simp⟩
 ·rw[qN]
  cases i with
  |null=>cases hd;simp[tabs]
  |gr=>cases hd;rfl
  |f q=>simp only[bA]at hd;split at hd<;>cases hd;rename_i hq;simp[tabs,List.getD,hq]
  |g q=>simp only[bA]at hd;split at hd<;>cases hd;rename_i hq;simp[tabs,List.getD,hq]
 ·rw[hb]at hbt
  by_cases c:i= .g 0/\m=T
  ·obtain⟨rfl,rfl⟩:=c
   exact lu (Cs hf _ _ _) _ (.inl ⟨rfl,rfl⟩)
  ·rw[if_neg c]at hbt
   by_cases hg:i= .gr
   ·subst hg;trivial
   ·rw[acs hg]at hbt;cases hbt
 ·rw[hb,if_neg (by simp)]at hz
  simp[bit,tabs]at hz
end
theorem Hr{T N:Nat}{R:List Ru}(h:aD T N R=true):bM T N R/\∀q,q<R.length->tY T N (R.getD q (0,[]))/\(R.getD q (0,[])).2.length<=8:=by
 obtain⟨_,h1,_,_,h5⟩:=fV h
 have mem:∀r∈R,0<=r.1/\r.1<(N:Int)/\∀s∈r.2,0<=s.2/\s.2<if s.1 then (T:Int) else (N:Int):=fun r hr=>by
  obtain⟨q,hq,rfl⟩:=List.getElem_of_mem hr;have e:R.getD q (0,[])=R[q]:=by simp[List.getD,hq]
  have:=h5 q hq;rw[e]at this;exact⟨this.1,this.2.1,this.2.2.2⟩
 refine⟨⟨fun r hr=>⟨(mem r hr).1,(mem r hr).2.1⟩,fun r hr s hs hb=> ?_,fun r hr s hs hb=> ?_,h1⟩,fun q hq=>⟨⟨⟨(h5 q hq).1,(h5 q hq).2.1⟩,(h5 q hq).2.2.2⟩,(h5 q hq).2.2.1⟩⟩
 ·have:=(mem r hr).2.2 s hs;rw[hb]at this;simpa using this
 ·have:=(mem r hr).2.2 s hs;rw[hb]at this;simpa using this
theorem acw{w:World}{T N:Nat}{ra:Option Addr}{rl rc:Nat}(hT:T<=8)(hN:N<=12):
 Calls Tryz.prog 50 #[.agg #[.int .i64 T,.int .i64 N,.slice ra rl rc]] w fun e w'=> ∃nv fv gv vf vg sb,e= .returned (.agg #[nv,fv,gv])/\Below w.heap.size w w'/\
  ah w' (w.heap.size+2) (bB sb T N N N nv fv gv vf vg (List.replicate N false) (List.replicate N (List.replicate T false)) (List.replicate N (List.replicate (T+1) false))):=by
 have wK:=Au N (by omega);have TU:=Au T (by omega);have Ht:=Au (T+1) (by omega)
 go_enter Tryz.func50,Tryz.ntmps50
 go_wp2_with fail
 have HS:=Z5 w T N (by unfold maxLen;omega) (.cells #[.int .i64 T,.int .i64 N,.slice ra rl rc] 26) (.cells #[.slice none 0 0,.slice none 0 0,.slice none 0 0] 56)
 have boxes:∀wr,Below (w.heap.size+2) ((w.alloc (.cells #[.int .i64 T,.int .i64 N,.slice ra rl rc] 26)).alloc (.cells #[.slice none 0 0,.slice none 0 0,.slice none 0 0] 56)) wr->Below w.heap.size w wr/\wr.cell? ⟨w.heap.size,0,none⟩=some (.int .i64 T)/\wr.cell? ⟨w.heap.size,1,none⟩=some (.int .i64 N)/\wr.cell? ⟨w.heap.size,2,none⟩=some (.slice ra rl rc):=fun wr hB=>
  ⟨(((Below.refl _ _).alloc (Nat.le_refl _) _).alloc (by simp) _).trans (hB.mono (by omega)),(hB.cell (by simp)).trans (by simp[go_sem]),(hB.cell (by simp)).trans (by simp[go_sem]),(hB.cell (by simp)).trans (by simp[go_sem])⟩
 have qX:Hid (∀wr,Below (w.heap.size+2) ((w.alloc (.cells #[.int .i64 T,.int .i64 N,.slice ra rl rc] 26)).alloc (.cells #[.slice none 0 0,.slice none 0 0,.slice none 0 0] 56)) wr->Below w.heap.size w wr/\wr.cell? ⟨w.heap.size,0,none⟩=some (.int .i64 T)/\wr.cell? ⟨w.heap.size,1,none⟩=some (.int .i64 N)/\wr.cell? ⟨w.heap.size,2,none⟩=some (.slice ra rl rc)):=boxes;clear boxes wK
 go_loopw [10] (fun i wr=> ∃m:Nat,i= .int .i64 m/\m<=N/\SR ((w.alloc (.cells #[.int .i64 T,.int .i64 N,.slice ra rl rc] 26)).alloc (.cells #[.slice none 0 0,.slice none 0 0,.slice none 0 0] 56)) (w.heap.size+2) (w.heap.size+1+1+1) T N m m (List.replicate N false) (List.replicate m (List.replicate T false)) (List.replicate m (List.replicate (T+1) false)) wr)
  (fun i _=>N-(intOf i).toNat)
 case atStart=>exact⟨0,rfl,Nat.zero_le _,HS⟩
 case round=>
  clear HS;obtain⟨m,rfl,hmN,hB,hle,Aw,Hu,nv,fv,gv,vf,vg,hO⟩:=hrel;have HB:Hid (Below (w.heap.size+2) ((w.alloc (.cells #[.int .i64 T,.int .i64 N,.slice ra rl rc] 26)).alloc (.cells #[.slice none 0 0,.slice none 0 0,.slice none 0 0] 56)) wr):=hB;have HO:Hid (ah wr (w.heap.size+2) (bB (w.heap.size+1+1+1) T N m m nv fv gv vf vg (List.replicate N false) (List.replicate m (List.replicate T false)) (List.replicate m (List.replicate (T+1) false)))):=hO;obtain⟨_,b0,b1,_⟩:=qX.out wr hB;have hsb:w.heap.size+1+1+1<wr.heap.size:=World.block_lt_of_cell? wr _ hO.fields.1;clear hB hO;by_cases hlt:m<N
  ·obtain⟨fa,fc,rfl⟩:∃a c,fv= .slice a m c:=bK (HO.out.own .fh _ rfl)
   obtain⟨ga,gc,rfl⟩:∃a c,gv= .slice a m c:=bK (HO.out.own .gh _ rfl)
   go_upto_region 5 with fail
   go_cut [] from 11 to 29 (fun wx=>SR ((w.alloc (.cells #[.int .i64 T,.int .i64 N,.slice ra rl rc] 26)).alloc (.cells #[.slice none 0 0,.slice none 0 0,.slice none 0 0] 56)) (w.heap.size+2) (w.heap.size+1+1+1) T N (m+1) m (List.replicate N false) (List.replicate (m+1) (List.replicate T false)) (List.replicate m (List.replicate (T+1) false)) wx)
   case first=>
    obtain⟨i0,hi0,hz0,hz1,hz2⟩:=info_parts Tryz.infoBools;obtain⟨s0,s1,s2,sf⟩:=HO.out.fields;obtain⟨t0,t1,t2,tf⟩:=(HO.out.alloc (.cells (madeCells #[.bool false] T) 4)).fields;have hO2:=(HO.out.alloc (.cells (madeCells #[.bool false] T) 4)).alloc (.cells #[.slice (some ⟨wr.heap.size,0,none⟩) T T] 53);obtain⟨q0,q1,q2,qf⟩:=hO2.fields;have Ej:((wr.alloc (.cells (madeCells #[.bool false] T) 4)).alloc (.cells #[.slice (some ⟨wr.heap.size,0,none⟩) T T] 53)).drew.ownsRow (w.heap.size+2) 53 1 (.slice fa m fc) m ((List.range m).map vf):=hO2.own .fh _ rfl;have c0:(wr.alloc (.cells (madeCells #[.bool false] T) 4)).cell? ⟨w.heap.size,0,none⟩=some (.int .i64 T):=by rw[World.cell?_alloc_past _ _ _ (by omega)];exact b0
    have El:(Value.slice fa m fc).ownBlock≠some (w.heap.size+1+1+1):=fun e=>HO.out.apart .fh .st _ _ (by simp) rfl rfl _ e rfl
    have hnb:((wr.alloc (.cells (madeCells #[.bool false] T) 4)).alloc (.cells #[.slice (some ⟨wr.heap.size,0,none⟩) T T] 53)).drew.heap[wr.heap.size+1]?=some (.cells #[.slice (some ⟨wr.heap.size,0,none⟩) T T] 53 (0,0)):=by
     show ((wr.alloc (.cells (madeCells #[.bool false] T) 4)).alloc (.cells #[.slice (some ⟨wr.heap.size,0,none⟩) T T] 53)).heap[wr.heap.size+1]?=_;simpa using heap_alloc_new (wr.alloc (.cells (madeCells #[.bool false] T) 4)) (.cells #[.slice (some ⟨wr.heap.size,0,none⟩) T T] 53)
    have L6:Hid (((wr.alloc (.cells (madeCells #[.bool false] T) 4)).alloc (.cells #[.slice (some ⟨wr.heap.size,0,none⟩) T T] 53)).drew.heap[wr.heap.size+1]?=some (.cells #[.slice (some ⟨wr.heap.size,0,none⟩) T T] 53 (0,0))):=hnb;clear hnb hO2 s0 s2 t0 t2 q0 q2 Ht
    go_region_law
     ((refine step_append_lies _ (by rfl) _ _ _ (by rfl) (w.heap.size+2) 53 i0 _ 1 24 Tryz.underlying54 hi0 hz0 hz1 hz2 rfl (by omega) (.slice fa m fc) m ((List.range m).map vf) (by rfl) Ej
        ⟨wr.heap.size+1,0,none⟩ 1 1 [.slice (some ⟨wr.heap.size,0,none⟩) T T] (by rfl) (by rfl) (World.news_of_block (cs:= #[.slice (some ⟨wr.heap.size,0,none⟩) T T]) (t:=53) (fr:=(0,0)) L6.out) (by simp[Value.oneCell'])
        (by omega) (by unfold maxLen;omega) (by omega) (by simp;omega) (wr.heap.size+2) (by simp) ?_;intro g1 vI w1 hown1 hgrow1 GL hlt1
       have d1:=(hgrow1.cell_far ⟨w.heap.size+1+1+1,1,none⟩ (by simp;omega) (Ne.symm El)).trans q1;have d2:=(hgrow1.frozen_far ⟨w.heap.size+1+1+1,1,none⟩ (by simp;omega) (Ne.symm El)).trans (qf 1)))
    all_goals
     go_wp2_with fail
     go_meet
     case rel=>
      obtain⟨x1,x2⟩:=Q6 (sb:=w.heap.size+1+1+1) (j:=1) (v:= .slice (some ⟨g1,0,none⟩) (m+1) vI) HB.out hle hgrow1 (fun k hk=>(Ej.lt k hk).1) (by omega)
      refine⟨x1,x2,by simp,by simp,_,_,_,_,_,by
       have:=HO.out.Z0 (by simp) hle (by unfold maxLen;omega) hgrow1 hown1 (by simpa using GL);rw[List.replicate_succ']
       exact this⟩
   case rest=>
    clear HB HO b0 b1 hle Aw Hu hsb;obtain⟨hB,hle,Aw,Hu,nv,fv,gv,vf,vg,hO⟩:=hcut;have HB:Hid (Below (w.heap.size+2) ((w.alloc (.cells #[.int .i64 T,.int .i64 N,.slice ra rl rc] 26)).alloc (.cells #[.slice none 0 0,.slice none 0 0,.slice none 0 0] 56)) wc):=hB;have HO:Hid (ah wc (w.heap.size+2) (bB (w.heap.size+1+1+1) T N (m+1) m nv fv gv vf vg (List.replicate N false) (List.replicate (m+1) (List.replicate T false)) (List.replicate m (List.replicate (T+1) false)))):=hO;obtain⟨_,b0,b1,_⟩:=qX.out wc hB;have hsb:w.heap.size+1+1+1<wc.heap.size:=World.block_lt_of_cell? wc _ hO.fields.1;clear hB hO;obtain⟨ga,gc,rfl⟩:∃a c,gv= .slice a m c:=bK (HO.out.own .gh _ rfl);obtain⟨i0,hi0,hz0,hz1,hz2⟩:=info_parts Tryz.infoBools;obtain⟨s0,s1,s2,sf⟩:=HO.out.fields;obtain⟨t0,t1,t2,tf⟩:=(HO.out.alloc (.cells (madeCells #[.bool false] (T+1)) 4)).fields;have hO2:=(HO.out.alloc (.cells (madeCells #[.bool false] (T+1)) 4)).alloc (.cells #[.slice (some ⟨wc.heap.size,0,none⟩) (T+1) (T+1)] 53);obtain⟨q0,q1,q2,qf⟩:=hO2.fields;have Ej:((wc.alloc (.cells (madeCells #[.bool false] (T+1)) 4)).alloc (.cells #[.slice (some ⟨wc.heap.size,0,none⟩) (T+1) (T+1)] 53)).drew.ownsRow (w.heap.size+2) 53 1 (.slice ga m gc) m ((List.range m).map vg):=hO2.own .gh _ rfl;have c0:(wc.alloc (.cells (madeCells #[.bool false] (T+1)) 4)).cell? ⟨w.heap.size,0,none⟩=some (.int .i64 T):=by rw[World.cell?_alloc_past _ _ _ (by omega)];exact b0
    have El:(Value.slice ga m gc).ownBlock≠some (w.heap.size+1+1+1):=fun e=>HO.out.apart .gh .st _ _ (by simp) rfl rfl _ e rfl
    have hnb:((wc.alloc (.cells (madeCells #[.bool false] (T+1)) 4)).alloc (.cells #[.slice (some ⟨wc.heap.size,0,none⟩) (T+1) (T+1)] 53)).drew.heap[wc.heap.size+1]?=some (.cells #[.slice (some ⟨wc.heap.size,0,none⟩) (T+1) (T+1)] 53 (0,0)):=by
     show ((wc.alloc (.cells (madeCells #[.bool false] (T+1)) 4)).alloc (.cells #[.slice (some ⟨wc.heap.size,0,none⟩) (T+1) (T+1)] 53)).heap[wc.heap.size+1]?=_;simpa using heap_alloc_new (wc.alloc (.cells (madeCells #[.bool false] (T+1)) 4)) (.cells #[.slice (some ⟨wc.heap.size,0,none⟩) (T+1) (T+1)] 53)
    have L6:Hid (((wc.alloc (.cells (madeCells #[.bool false] (T+1)) 4)).alloc (.cells #[.slice (some ⟨wc.heap.size,0,none⟩) (T+1) (T+1)] 53)).drew.heap[wc.heap.size+1]?=some (.cells #[.slice (some ⟨wc.heap.size,0,none⟩) (T+1) (T+1)] 53 (0,0))):=hnb;have afQ:∀u:World,(Instr.makeSlice 53 (.int .i64 ((T:Int)+1)) (.int .i64 ((T:Int)+1))).run Tryz.prog u= .ok (.slice (some ⟨u.heap.size,0,none⟩) (T+1) (T+1)) (u.alloc (.cells (madeCells #[.bool false] (T+1)) 4)):=fun u=>by simpa using Ht u
    have hw:IntKind.i64.wrap ((T:Int)+1)=(T:Int)+1:=IntWalk.i64_in _ (by omega);clear hnb hO2 s0 s1 t0 t1 q0 q1 TU Ht
    go_wp2_with fail
    go_region_law
     ((refine step_append_lies _ (by rfl) _ _ _ (by rfl) (w.heap.size+2) 53 i0 _ 1 24 Tryz.underlying54 hi0 hz0 hz1 hz2 rfl (by omega) (.slice ga m gc) m ((List.range m).map vg) (by rfl) Ej
        ⟨wc.heap.size+1,0,none⟩ 1 1 [.slice (some ⟨wc.heap.size,0,none⟩) (T+1) (T+1)] (by rfl) (by rfl) (World.news_of_block (cs:= #[.slice (some ⟨wc.heap.size,0,none⟩) (T+1) (T+1)]) (t:=53) (fr:=(0,0)) L6.out) (by simp[Value.oneCell'])
        (by omega) (by unfold maxLen;omega) (by omega) (by simp;omega) (wc.heap.size+2) (by simp) ?_;intro g1 vI w1 hown1 hgrow1 GL hlt1
       have d1:=(hgrow1.cell_far ⟨w.heap.size+1+1+1,2,none⟩ (by simp;omega) (Ne.symm El)).trans q2;have d2:=(hgrow1.frozen_far ⟨w.heap.size+1+1+1,2,none⟩ (by simp;omega) (Ne.symm El)).trans (qf 2)))
    all_goals
     go_wp2_with fail
     go_roundw
     case rel=>
      obtain⟨x1,x2⟩:=Q6 (sb:=w.heap.size+1+1+1) (j:=2) (v:= .slice (some ⟨g1,0,none⟩) (m+1) vI) HB.out hle hgrow1 (fun k hk=>(Ej.lt k hk).1) (by omega)
      refine⟨m+1,by go_num,by omega,x1,x2,by simp,by simp,_,_,_,_,_,by
       have:=HO.out.Z4 (by simp) hle (by unfold maxLen;omega) hgrow1 hown1 (by simpa using GL);rw[List.replicate_succ' (n:=m) (a:=List.replicate (T+1) false)]
       exact this⟩
     case measure=>simp[intOf];omega
  ·have TV:m=N:=by omega
   have qp:Hid (SR ((w.alloc (.cells #[.int .i64 T,.int .i64 N,.slice ra rl rc] 26)).alloc (.cells #[.slice none 0 0,.slice none 0 0,.slice none 0 0] 56)) (w.heap.size+2) (w.heap.size+1+1+1) T N N N (List.replicate N false) (List.replicate N (List.replicate T false)) (List.replicate N (List.replicate (T+1) false)) wr):=by
    subst TV;exact⟨HB.out,hle,Aw,Hu,nv,fv,gv,vf,vg,HO.out⟩
   clear TU Ht HB HO hle Aw Hu hsb hmN TV b0;obtain⟨hB,hle,Em,acy,nv,fv,gv,vf,vg,hO⟩:=qp.out;have HB:Hid (Below (w.heap.size+2) ((w.alloc (.cells #[.int .i64 T,.int .i64 N,.slice ra rl rc] 26)).alloc (.cells #[.slice none 0 0,.slice none 0 0,.slice none 0 0] 56)) wr):=hB;have HO:Hid (ah wr (w.heap.size+2) (bB (w.heap.size+1+1+1) T N N N nv fv gv vf vg (List.replicate N false) (List.replicate N (List.replicate T false)) (List.replicate N (List.replicate (T+1) false)))):=hO;obtain⟨s0,s1,s2,sf⟩:=hO.fields;obtain⟨na,nc,rfl⟩:∃a c,nv= .slice a N c:=bK (hO.own .null _ rfl);obtain⟨fa,fc,rfl⟩:∃a c,fv= .slice a N c:=bK (hO.own .fh _ rfl);obtain⟨ga,gc,rfl⟩:∃a c,gv= .slice a N c:=bK (hO.own .gh _ rfl);have r0:wr.cell? ⟨w.heap.size+1,0,none⟩=some (.slice none 0 0):=(hB.cell (by simp)).trans (by simp[go_sem]);have r1:wr.cell? ⟨w.heap.size+1,1,none⟩=some (.slice none 0 0):=(hB.cell (by simp)).trans (by simp[go_sem]);have r2:wr.cell? ⟨w.heap.size+1,2,none⟩=some (.slice none 0 0):=(hB.cell (by simp)).trans (by simp[go_sem]);have rf:∀o,wr.frozen? ⟨w.heap.size+1,o,none⟩=false:=fun o=>(hB.frozen (by simp)).trans (by simp[go_sem]);have HX:Hid (Below w.heap.size w wr):=(qX.out wr hB).1;clear hB hO Em acy qp
   go_wp2_with fail
   refine bodyPost_ret (v:= .agg #[.slice na N nc,.slice fa N fc,.slice ga N gc]) (by simp[results,Tryz.results50,go_sem,r0,r1,r2]) rfl ⟨_,_,_,vf,vg,w.heap.size+1+1+1,rfl,?_,?_⟩
   ·exact((HX.out.setCell (by simp) _).setCell (by simp) _).setCell (by simp) _
   ·exact((HO.out.sJ (by simp) _).sJ (by simp) _).sJ (by simp) _
structure Ready(w:World)(B T N sx:Nat)(rv nv fv gv:Value)(vf vg:Nat->Value)(R:List Ru)(wx:World):Prop where
 below:Below w.heap.size w wx
 size:B<=wx.heap.size
 base:w.heap.size+2<=B
 res:∀o,o<3->wx.cell? ⟨w.heap.size+1,o,none⟩=some (.slice none 0 0)
 fro:∀o,wx.frozen? ⟨w.heap.size+1,o,none⟩=false
 fB:∀g c,fv= .slice (some ⟨g,0,none⟩) N c->B<=g
 gB:∀g c,gv= .slice (some ⟨g,0,none⟩) N c->B<=g
 st:∃X,ow T N R X/\Bt (wx.alloc (.cells #[.bool true] 4)) B (ay T N nv vf vg wx.heap.size) X/\Env (wx.alloc (.cells #[.bool true] 4)) B T N (ay T N nv vf vg wx.heap.size).K w.heap.size sx rv nv fv gv vf vg R
theorem acz{w w2 w3:World}{T N sb g0 c0:Nat}{rv nv fv gv:Value}{vf vg:Nat->Value}{R:List Ru}(hf:bM T N R)(hr:au w w.heap.size rv R)
 (hB2:Below (w.heap.size+2) ((w.alloc (.cells #[.int .i64 T,.int .i64 N,rv] 26)).alloc (.cells #[.slice none 0 0,.slice none 0 0,.slice none 0 0] 56)) w2)
 (hB3:Below w2.heap.size w2 w3)
 (hO:ah w3 (w2.heap.size+2) (bB sb T N N N nv fv gv vf vg (List.replicate N false) (List.replicate N (List.replicate T false)) (List.replicate N (List.replicate (T+1) false))))
 (hv:vg 0= .slice (some ⟨g0,0,none⟩) (T+1) c0):
 Ready w (w2.heap.size+2) T N w3.heap.size rv nv fv gv vf vg R ((w3.setCell ⟨g0,T,none⟩ (.bool true)).alloc (.cells #[nv,fv,gv] 56)).drew:=by
 have Z8:=hf.some;have hs2:w.heap.size+2<=w2.heap.size:=by have:=hB2.size;simp at this;omega
 have hsb:=World.block_lt_of_cell? w3 _ hO.fields.1;have hst:=(hO.own .st _ rfl).lt sb rfl;have yL:=hO.ZY (by simp) (n:=0) (by omega) hv T;have hg0:=(hO.own (.g 0) _ (by simp[bB,show 0<N by omega];rfl)).lt g0 (by simp only;rw[hv];rfl);have hBw:Below w.heap.size w w2:=(((Below.refl _ _).alloc (Nat.le_refl _) _).alloc (by simp) _).trans (hB2.mono (by omega));have hB4:Below w2.heap.size w2 ((w3.setCell ⟨g0,T,none⟩ (.bool true)).alloc (.cells #[nv,fv,gv] 56)).drew:=((hB3.setCell (by simp only;omega) _).alloc (by have:=hB3.size;simp;omega) _).drew;have ak:Below (w.heap.size+2) ((w.alloc (.cells #[.int .i64 T,.int .i64 N,rv] 26)).alloc (.cells #[.slice none 0 0,.slice none 0 0,.slice none 0 0] 56)) ((w3.setCell ⟨g0,T,none⟩ (.bool true)).alloc (.cells #[nv,fv,gv] 56)).drew:=hB2.trans (hB4.mono hs2)
 have hsz:((w3.setCell ⟨g0,T,none⟩ (.bool true)).alloc (.cells #[nv,fv,gv] 56)).drew.heap.size=w3.heap.size+1:=by
  show ((w3.setCell ⟨g0,T,none⟩ (.bool true)).alloc (.cells #[nv,fv,gv] 56)).heap.size=_;simp
 have hle:w2.heap.size+2<=((w3.setCell ⟨g0,T,none⟩ (.bool true)).alloc (.cells #[nv,fv,gv] 56)).drew.heap.size:=by rw[hsz];omega
 have hO2:ah ((w3.setCell ⟨g0,T,none⟩ (.bool true)).alloc (.cells #[nv,fv,gv] 56)).drew (w2.heap.size+2) _:=(yL.alloc (.cells #[nv,fv,gv] 56)).drew;obtain⟨wx,hwx⟩:∃wx,((w3.setCell ⟨g0,T,none⟩ (.bool true)).alloc (.cells #[nv,fv,gv] 56)).drew=wx:=⟨_,rfl⟩
 have nS:∀o v,(#[nv,fv,gv]:Array Value)[o]?=some v->wx.cell? ⟨w3.heap.size,o,none⟩=some v:=fun o v hv=>by
  rw[<-hwx];show ((w3.setCell ⟨g0,T,none⟩ (.bool true)).alloc (.cells #[nv,fv,gv] 56)).cell? _=_;have:=World.cell?_alloc_new (w3.setCell ⟨g0,T,none⟩ (.bool true)) #[nv,fv,gv] 56 o;simp only[World.size_setCell]at this;rw[this];exact hv
 rw[hwx]at hB4 ak hsz hle hO2⊢;have kz:=aco hO2 hle;have geK:∀b,(ay T N nv vf vg wx.heap.size).K b->w2.heap.size+2<=b:=fun b hb=>Bt.ge kz hb;have TW:Below w.heap.size w wx:=hBw.trans (hB4.mono (by omega));refine⟨TW,hle,by omega,fun o ho=>(ak.cell (by simp)).trans ?_,fun o=>(ak.frozen (by simp)).trans (by simp[go_sem]),fun g c o8=> ?_,fun g c hgv=> ?_,tabs _ _ _,acv hf,kz,?_⟩
 ·rcases o with _|_|_|o
  ·simp[go_sem]
  ·simp[go_sem]
  ·simp[go_sem]
  ·omega
 ·exact((hO.own .fh _ rfl).lt g (by simp only;rw[o8];rfl)).1
 ·exact((hO.own .gh _ rfl).lt g (by simp only;rw[hgv];rfl)).1
 ·have past:∀b o,b<wx.heap.size->(wx.alloc (.cells #[.bool true] 4)).cell? ⟨b,o,none⟩=wx.cell? ⟨b,o,none⟩:=fun b o hb=>World.cell?_alloc_past _ _ _ hb
  refine⟨?_,?_,?_,?_,fun hK=> ?_,fun hK=> ?_,?_,acp hO2 _,acr hO2 _⟩
  ·rw[past _ _ (by omega)];exact(ak.cell (by simp)).trans (by simp[go_sem])
  ·rw[past _ _ (by omega)];exact nS 0 nv rfl
  ·rw[past _ _ (by omega)];exact nS 1 fv rfl
  ·rw[past _ _ (by omega)];exact nS 2 gv rfl
  ·have:=geK _ hK;omega
  ·obtain⟨i,n,hd,hb⟩:=hK
   cases hx:nA i with
   |some x=>
    have hP:(ay T N nv vf vg wx.heap.size).P (tabs (List.replicate N false) (List.replicate N (List.replicate T false)) (List.replicate N (List.replicate (T+1) false))) i=some ⟨(ay T N nv vf vg wx.heap.size).V i,4,1,n,_⟩:=dw.yC hd;rw[LZ (sb:=sb) (fv:=fv) (gv:=gv) _ i x hx]at hP;have:=(hO.lt hP hb).2;omega
   |none=>
    cases i<;>simp[nA]at hx;simp only[ay,Value.ownBlock,Option.some.injEq]at hb;omega
  ·exact((hr.below TW).below ((Below.refl _ _).alloc (by omega) _)).mono (by omega)
theorem iV.setOther{w:World}{K:Nat->Prop}{N B:Nat}{fv:Value}{vs:Nat->Value}(h:iV w K N fv vs)(hB:∀g c,fv= .slice (some ⟨g,0,none⟩) N c->B<=g){a:Addr}(ha:a.block<B)(u:Value):iV (w.setCell a u) K N fv vs:=
 ⟨h.1,fun n hn=>by
   obtain⟨g,c,h1,h2,h3⟩:=h.2 n hn;have:=hB g c h1
   exact⟨g,c,h1,h2,(iE (.inl (by simp only;omega))).trans h3⟩⟩
theorem TY{w:World}{T N:Nat}{rv:Value}{R:List Ru}(hr:au w w.heap.size rv R)(hm:aD T N R=true):
 Calls Tryz.prog 27 #[.agg #[.int .i64 T,.int .i64 N,rv]] w fun e w'=> ∃nv fv gv vf vg,e= .returned (.tuple #[.agg #[nv,fv,gv],.int .i64 0])/\Below w.heap.size w w'/\
  ∃gb B Y,w.heap.size<=B/\ow T N R Y/\bit Y .gr 0=false/\Bt w' B (ay T N nv vf vg gb) Y/\iV w' (ay T N nv vf vg gb).K N fv vf/\iV w' (ay T N nv vf vg gb).K N gv vg:=by
 obtain⟨hT,hN1,hN,hRl,_⟩:=fV hm;obtain⟨hfi,Bf⟩:=Hr hm;obtain⟨ra,rc,aG⟩:=hr.1;subst aG;have may:=lm (T:=T) (N:=N) ((hr.boxed (.cells #[.int .i64 T,.int .i64 N,.slice ra R.length rc] 26)).boxed (.cells #[.slice none 0 0,.slice none 0 0,.slice none 0 0] 56));rw[hm]at may;have HR:Hid (au w w.heap.size (.slice ra R.length rc) R):=hr;have HF:Hid (bM T N R):=hfi;have HQ:Hid (∀q,q<R.length->tY T N (R.getD q (0,[]))/\(R.getD q (0,[])).2.length<=8):=Bf;clear hr hm hfi Bf
 go_enter Tryz.func27,Tryz.ntmps27
 go_wp2_with
  (first
   |(go_at_call 49;refine may.mono ?_;rintro e w2 ⟨rfl,hB2⟩
     have b0:w2.cell? ⟨w.heap.size,0,none⟩=some (.int .i64 T):=(hB2.cell (by simp;omega)).trans (by simp[go_sem]);have b1:w2.cell? ⟨w.heap.size,1,none⟩=some (.int .i64 N):=(hB2.cell (by simp;omega)).trans (by simp[go_sem]);have b2:w2.cell? ⟨w.heap.size,2,none⟩=some (.slice ra R.length rc):=(hB2.cell (by simp;omega)).trans (by simp[go_sem]);have hs2:w.heap.size+2<=w2.heap.size:=by have:=hB2.size;simp at this;omega
     have HB2:Hid (Below (w.heap.size+2) ((w.alloc (.cells #[.int .i64 T,.int .i64 N,.slice ra R.length rc] 26)).alloc (.cells #[.slice none 0 0,.slice none 0 0,.slice none 0 0] 56)) w2):=hB2.mono (by simp)
     clear hB2)
   |(go_at_call 50;refine(acw hT hN).mono ?_;rintro e w3 ⟨nv,fv,gv,vf,vg,sb,rfl,hB3,hO3⟩
     obtain⟨na,nc,rfl⟩:∃a c,nv= .slice a N c:=bK (hO3.own .null _ rfl);obtain⟨fa,fc,rfl⟩:∃a c,fv= .slice a N c:=bK (hO3.own .fh _ rfl);have HB3:Hid (Below w2.heap.size w2 w3):=hB3;have HO3:Hid (ah w3 (w2.heap.size+2) (bB sb T N N N (.slice na N nc) (.slice fa N fc) gv vf vg (List.replicate N false) (List.replicate N (List.replicate T false)) (List.replicate N (List.replicate (T+1) false)))):=hO3;obtain⟨gg,gc,hgv,_,acA⟩:=hO3.form (i:= .gh) rfl (by simp only;omega);simp only at hgv;subst hgv;obtain⟨g0,c0,hg0,_,acB⟩:=hO3.form (i:= .g 0) (r:=⟨vg 0,4,1,T+1,((List.replicate N (List.replicate (T+1) false)).getD 0 []).map Value.bool⟩) (by simp[bB,show 0<N by omega]) (by simp only;omega);simp only at hg0;have k0:=(hO3.own .gh _ rfl).cellAt 0 (by simp only;omega);have k1:=hO3.own (.g 0) _ (by simp[bB,show 0<N by omega];rfl);simp only[hg0]at k1;have k2:=k1.cellAt T (by omega);have k3:=k1.frozenAt T;have d0:=(hB3.cell (p:=⟨w.heap.size,0,none⟩) (by simp only;omega)).trans b0;have hs3:=hB3.size;have T9:Hid (vg 0= .slice (some ⟨g0,0,none⟩) (T+1) c0):=hg0
     have ou:Hid (w3.cell? ⟨gg,0,none⟩=some (vg 0)):=by
      show w3.cell? ⟨gg,0,none⟩=some (vg 0);rw[k0];simp[show 0<N by omega]
     have dP:Hid (∃x,w3.cell? ⟨g0,T,none⟩=some (.bool x)):=by
      show ∃x,w3.cell? ⟨g0,T,none⟩=some (.bool x);rw[k2];exact⟨false,by simp⟩
     clear hB3 hO3 k1 k0 k2))
 have j0:(0:Int)<=(T:Int):=Int.natCast_nonneg _;have j1:(T:Int)<(T:Int)+1:=by omega
 have j2:0<N:=by omega
 have hg0:=T9.out;have k0:=ou.out;obtain⟨x,k2⟩:=dP.out;have m0:(w3.alloc (.cells #[.slice na N nc,.slice fa N fc,.slice (some ⟨gg,0,none⟩) N gc] 56)).cell? ⟨gg,0,none⟩=some (vg 0):=by rw[World.cell?_alloc_past _ _ _ acA];exact k0
 have m1:(w3.alloc (.cells #[.slice na N nc,.slice fa N fc,.slice (some ⟨gg,0,none⟩) N gc] 56)).cell? ⟨w.heap.size,0,none⟩=some (.int .i64 T):=by rw[World.cell?_alloc_past _ _ _ (by omega)];exact d0
 have m2:(w3.alloc (.cells #[.slice na N nc,.slice fa N fc,.slice (some ⟨gg,0,none⟩) N gc] 56)).cell? ⟨g0,T,none⟩=some (.bool x):=by rw[World.cell?_alloc_past _ _ _ acB];exact k2
 clear b0 b1 b2 d0 k0
 go_cut [] from 11 to 22 (fun wx=>Ready w (w2.heap.size+2) T N w3.heap.size (.slice ra R.length rc) (.slice na N nc) (.slice fa N fc) (.slice (some ⟨gg,0,none⟩) N gc) vf vg R wx)
 case first=>
  refine sM 7 (by kernel_rfl) (by kernel_rfl) ?_;simp only[List.take_succ_cons,List.take_zero,List.drop_succ_cons,List.drop_zero]
  repeat still_step
  refine wpStill_nil ?_
  go_wp2_with fail
  go_meet
  case rel=>exact acz HF.out HR.out HB2.out HB3.out HO3.out T9.out
 case rest=>
  obtain⟨X,hA,kz,hE⟩:=hcut.st;have Ua:=acn kz hcut.size hE HF.out HQ.out hT hRl hA;have HC:Hid (Ready w (w2.heap.size+2) T N w3.heap.size (.slice ra R.length rc) (.slice na N nc) (.slice fa N fc) (.slice (some ⟨gg,0,none⟩) N gc) vf vg R wc):=hcut;have Ub:Hid (Bt (wc.alloc (.cells #[.bool true] 4)) (w2.heap.size+2) (ay T N (.slice na N nc) vf vg wc.heap.size) X):=kz;have HE:Hid (Env (wc.alloc (.cells #[.bool true] 4)) (w2.heap.size+2) T N (ay T N (.slice na N nc) vf vg wc.heap.size).K w.heap.size w3.heap.size (.slice ra R.length rc) (.slice na N nc) (.slice fa N fc) (.slice (some ⟨gg,0,none⟩) N gc) vf vg R):=hE;have z2:wc.cell? ⟨w.heap.size,2,none⟩=some (.slice ra R.length rc):=(World.cell?_alloc_past _ _ _ (by have:=hcut.size;have:=hcut.base;omega)).symm.trans hE.g2;clear hcut kz hE hA m0 m1 m2 k2 k3 hg0
  go_wp2_with
   (go_at_call 51;refine Ua.mono ?_;rintro e w5 ⟨rfl,Y,Eg,hgY,ak,rO⟩
    have n0:=rO.cell HE.out.sK HE.out.s0;have n1:=rO.cell HE.out.sK HE.out.s1;have n2:=rO.cell HE.out.sK HE.out.s2;have Hw:¬(ay T N (.slice na N nc) vf vg wc.heap.size).K (w.heap.size+1):=fun hK=>by have:=Bt.ge Ub.out hK;omega
    have hrl:w.heap.size+1<wc.heap.size:=by have:=HC.out.size;omega
    have r0:=rO.cell (p:=⟨w.heap.size+1,0,none⟩) Hw ((World.cell?_alloc_past _ _ _ hrl).trans (HC.out.res 0 (by omega)));have r1:=rO.cell (p:=⟨w.heap.size+1,1,none⟩) Hw ((World.cell?_alloc_past _ _ _ hrl).trans (HC.out.res 1 (by omega)));have r2:=rO.cell (p:=⟨w.heap.size+1,2,none⟩) Hw ((World.cell?_alloc_past _ _ _ hrl).trans (HC.out.res 2 (by omega)));have hal:Below wc.heap.size wc (wc.alloc (.cells #[.bool true] 4)):=(Below.refl _ _).alloc (Nat.le_refl _) _;have rf:∀o,w5.frozen? ⟨w.heap.size+1,o,none⟩=false:=fun o=>(rO.frozen Hw (by simp;omega)).trans ((hal.frozen hrl).trans (HC.out.fro o));have HX:Hid (Below w.heap.size w w5):=(HC.out.below.trans (hal.mono (by omega))).trans (rO.below (fun b hb=>by have:=Bt.ge Ub.out hb;omega) (by simp;omega));have HY:Hid (ow T N R Y/\bit Y .gr 0=false/\Bt w5 (w2.heap.size+2) (ay T N (.slice na N nc) vf vg wc.heap.size) Y/\iV w5 (ay T N (.slice na N nc) vf vg wc.heap.size).K N (.slice fa N fc) vf/\iV w5 (ay T N (.slice na N nc) vf vg wc.heap.size).K N (.slice (some ⟨gg,0,none⟩) N gc) vg):=⟨Eg,hgY,ak,HE.out.hF.kept rO,HE.out.hG.kept rO⟩
    clear Eg hgY ak rO Ua hal z2)
  refine bodyPost_ret (v:= .tuple #[.agg #[.slice na N nc,.slice fa N fc,.slice (some ⟨gg,0,none⟩) N gc],.int .i64 0]) (by simp[results,Tryz.results27,go_sem,r0,r1,r2]) rfl ⟨_,_,_,vf,vg,rfl,?_,wc.heap.size,w2.heap.size+2,Y,by omega,HY.out.1,HY.out.2.1,?_,?_,?_⟩
  ·exact((HX.out.setCell (by simp) _).setCell (by simp) _).setCell (by simp) _
  ·exact((ah.sJ HY.out.2.2.1 (by simp;omega) _).sJ (by simp;omega) _).sJ (by simp;omega) _
  ·exact((HY.out.2.2.2.1.setOther (B:=w2.heap.size+2) HC.out.fB (by simp;omega) _).setOther HC.out.fB (by simp;omega) _).setOther HC.out.fB (by simp;omega) _
  ·exact((HY.out.2.2.2.2.setOther (B:=w2.heap.size+2) HC.out.gB (by simp;omega) _).setOther HC.out.gB (by simp;omega) _).setOther HC.out.gB (by simp;omega) _
theorem En{X Y:List Bool}(hl:X.length=Y.length)(h:∀i,i<X.length->(X.getD i false=true↔Y.getD i false=true)):X=Y:=by
 refine List.ext_getElem hl fun i h1 h2=> ?_;have:=h i h1;simp[List.getD,h1,h2]at this;exact this
theorem Uc{X Y:List (List Bool)}(hl:X.length=Y.length)(h:∀i,i<X.length->X.getD i []=Y.getD i []):X=Y:=by
 refine List.ext_getElem hl fun i h1 h2=> ?_;have:=h i h1;simpa [List.getD,h1,h2] using this
section
variable{w:World}{B T N gb:Nat}{nv fv gv:Value}{vf vg:Nat->Value}{R:List Ru}{Y:Xs}
theorem L8{c:dw Iy}{i:Iy}{n:Nat}(h:Bt w B c Y)(hd:c.dom i=some n):kL w (c.V i) (Y i):=Z6 (h.own hd)
theorem L9(h:Bt w B (ay T N nv vf vg gb) Y):kL w nv (Y .null):=L8 (c:=ay T N nv vf vg gb) (i:= .null) (n:=N) h rfl
theorem Ud(h:Bt w B (ay T N nv vf vg gb) Y)(hF:iV w (ay T N nv vf vg gb).K N fv vf):oZ w fv ((List.range N).map fun n=>Y (.f n)):=by
 refine⟨by simpa using hF.1,fun i hi=> ?_⟩;simp only[List.length_map,List.length_range]at hi;obtain⟨g,c,h1,_,h3⟩:=hF.2 i hi;refine⟨g,0,c,vf i,by simpa using h1,by rw[Nat.zero_add];exact h3,?_⟩;have e:((List.range N).map fun n=>Y (.f n)).getD i []=Y (.f i):=by simp[List.getD,hi]
 rw[e];exact L8 (c:=ay T N nv vf vg gb) (i:= .f i) (n:=T) h (by simp[ay,bA,hi])
theorem acC(h:Bt w B (ay T N nv vf vg gb) Y)(hF:iV w (ay T N nv vf vg gb).K N gv vg):oZ w gv ((List.range N).map fun n=>Y (.g n)):=by
 refine⟨by simpa using hF.1,fun i hi=> ?_⟩;simp only[List.length_map,List.length_range]at hi;obtain⟨g,c,h1,_,h3⟩:=hF.2 i hi;refine⟨g,0,c,vg i,by simpa using h1,by rw[Nat.zero_add];exact h3,?_⟩;have e:((List.range N).map fun n=>Y (.g n)).getD i []=Y (.g i):=by simp[List.getD,hi]
 rw[e];exact L8 (c:=ay T N nv vf vg gb) (i:= .g i) (n:=T+1) h (by simp[ay,bA,hi])
theorem acD(hf:bM T N R)(hA:ow T N R Y)(hg:bit Y .gr 0=false):
 Y .null=fI R N/\((List.range N).map fun n=>Y (.f n))=jW R (fI R N) T N/\((List.range N).map fun n=>Y (.g n))=Gf R (fI R N) (jW R (fI R N) T N) T N:=by
 obtain⟨l1,l2,l3⟩:=LX hf hA.bU hA.snd (hA.held hg) hA.fin;obtain⟨n1,n2⟩:=Q7 hf;obtain⟨f1,f2⟩:=Q9 hf n2;obtain⟨g1,g2⟩:=Z7 hf n2 f2;have sN:=hA.bU .null N rfl;have sF:∀n,n<N->(Y (.f n)).length=T:=fun n hn=>hA.bU (.f n) T (by simp[bA,hn]);have sG:∀n,n<N->(Y (.g n)).length=T+1:=fun n hn=>hA.bU (.g n) (T+1) (by simp[bA,hn]);refine⟨En (by omega) fun i hi=> ?_,Uc (by simp[f1.1]) fun i hi=> ?_,Uc (by simp[g1.1]) fun i hi=> ?_⟩
 ·have h1:=l1 i (by omega)
  have h2:=n2 (i:Int);unfold kN at h2;simp only[Int.toNat_natCast]at h2;exact h1.trans (h2.symm.trans ⟨fun h=>h.2,fun h=>⟨Int.natCast_nonneg _,h⟩⟩)
 ·simp only[List.length_map,List.length_range]at hi
  have e:((List.range N).map fun n=>Y (.f n)).getD i []=Y (.f i):=by simp[List.getD,hi]
  rw[e];refine En (by rw[sF i hi,f1.2 i hi]) fun t ht=> ?_;rw[sF i hi]at ht;have h1:=l2 i t hi ht;have h2:=f2 t ht (i:Int);unfold dS at h2;simp only[Int.toNat_natCast]at h2;exact h1.trans (h2.symm.trans ⟨fun h=>h.2,fun h=>⟨Int.natCast_nonneg _,h⟩⟩)
 ·simp only[List.length_map,List.length_range]at hi
  have e:((List.range N).map fun n=>Y (.g n)).getD i []=Y (.g i):=by simp[List.getD,hi]
  rw[e];refine En (by rw[sG i hi,g1.2 i hi]) fun t ht=> ?_;rw[sG i hi]at ht;have h1:=l3 i t hi ht;have h2:=g2 t ht (i:Int);unfold dS at h2;simp only[Int.toNat_natCast]at h2;exact h1.trans (h2.symm.trans ⟨fun h=>h.2,fun h=>⟨Int.natCast_nonneg _,h⟩⟩)
end
end Go.Proofs.YtblkkhfdeaaidaaGreatDoor
