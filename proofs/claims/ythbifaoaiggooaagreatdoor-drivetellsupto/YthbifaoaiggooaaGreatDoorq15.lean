import Derived.Test.YthbifaoaiggooaaGreatDoorq14
set_option maxHeartbeats 3200000
set_option maxRecDepth 100000
namespace Go.Proofs.YthbifaoaiggooaaGreatDoor
open Go.RowKit
structure Ready(w:World)(B T N sx:Nat)(rv nv fv gv:Value)(vf vg:Nat->Value)(R:List Ru)(wx:World):Prop where
 below:Below w.heap.size w wx
 size:B<=wx.heap.size
 base:w.heap.size+2<=B
 res:∀o,o<3->wx.cell? ⟨w.heap.size+1,o,none⟩=some (.slice none 0 0)
 fro:∀o,wx.frozen? ⟨w.heap.size+1,o,none⟩=false
 fB:∀g c,fv= .slice (some ⟨g,0,none⟩) N c->B<=g
 gB:∀g c,gv= .slice (some ⟨g,0,none⟩) N c->B<=g
 st:∃X,qi T N R X/\Bt (wx.alloc (.cells #[.bool true] 4)) B (aK T N nv vf vg wx.heap.size) X/\Env (wx.alloc (.cells #[.bool true] 4)) B T N (aK T N nv vf vg wx.heap.size).K w.heap.size sx rv nv fv gv vf vg R
theorem afD{w w2 w3:World}{T N sb g0 c0:Nat}{rv nv fv gv:Value}{vf vg:Nat->Value}{R:List Ru}(hf:dD T N R)(hr:aG w w.heap.size rv R)
 (hB2:Below (w.heap.size+2) ((w.alloc (.cells #[.int .i64 T,.int .i64 N,rv] 27)).alloc (.cells #[.slice none 0 0,.slice none 0 0,.slice none 0 0] 64)) w2)
 (hB3:Below w2.heap.size w2 w3)
 (hO:aA w3 (w2.heap.size+2) (bZ sb T N N N nv fv gv vf vg (List.replicate N false) (List.replicate N (List.replicate T false)) (List.replicate N (List.replicate (T+1) false))))
 (hv:vg 0= .slice (some ⟨g0,0,none⟩) (T+1) c0):
 Ready w (w2.heap.size+2) T N w3.heap.size rv nv fv gv vf vg R ((w3.setCell ⟨g0,T,none⟩ (.bool true)).alloc (.cells #[nv,fv,gv] 64)).drew:=by
 have h1N:=hf.some;have hs2:w.heap.size+2<=w2.heap.size:=by have:=hB2.size;simp at this;omega
 have hsb:=aQ w3 _ hO.fields.1;have hst:=(hO.own .st _ rfl).lt sb rfl;have Cg:=hO.adj (by simp) (n:=0) (by omega) hv T;have hg0:=(hO.own (.g 0) _ (by simp[bZ,show 0<N by omega];rfl)).lt g0 (by simp only;rw[hv];rfl);have hBw:Below w.heap.size w w2:=(((ai _ _).alloc (ah _) _).alloc (by simp) _).trans (hB2.mono (by omega));have hB4:Below w2.heap.size w2 ((w3.setCell ⟨g0,T,none⟩ (.bool true)).alloc (.cells #[nv,fv,gv] 64)).drew:=((hB3.setCell (by simp only;omega) _).alloc (by have:=hB3.size;simp;omega) _).drew;have aD:Below (w.heap.size+2) ((w.alloc (.cells #[.int .i64 T,.int .i64 N,rv] 27)).alloc (.cells #[.slice none 0 0,.slice none 0 0,.slice none 0 0] 64)) ((w3.setCell ⟨g0,T,none⟩ (.bool true)).alloc (.cells #[nv,fv,gv] 64)).drew:=hB2.trans (hB4.mono hs2)
 have hsz:((w3.setCell ⟨g0,T,none⟩ (.bool true)).alloc (.cells #[nv,fv,gv] 64)).drew.heap.size=w3.heap.size+1:=by
  show ((w3.setCell ⟨g0,T,none⟩ (.bool true)).alloc (.cells #[nv,fv,gv] 64)).heap.size=_;simp
 have hle:w2.heap.size+2<=((w3.setCell ⟨g0,T,none⟩ (.bool true)).alloc (.cells #[nv,fv,gv] 64)).drew.heap.size:=by rw[hsz];omega
 have hO2:aA ((w3.setCell ⟨g0,T,none⟩ (.bool true)).alloc (.cells #[nv,fv,gv] 64)).drew (w2.heap.size+2) _:=(Cg.alloc (.cells #[nv,fv,gv] 64)).drew;obtain⟨wx,hwx⟩:=af (((w3.setCell ⟨g0,T,none⟩ (.bool true)).alloc (.cells #[nv,fv,gv] 64)).drew)
 have rD:∀o v,(#[nv,fv,gv]:Array Value)[o]?=some v->wx.cell? ⟨w3.heap.size,o,none⟩=some v:=λo v hv=>by
  rw[<-hwx];show ((w3.setCell ⟨g0,T,none⟩ (.bool true)).alloc (.cells #[nv,fv,gv] 64)).cell? _=_;have:=World.cell?_alloc_new (w3.setCell ⟨g0,T,none⟩ (.bool true)) #[nv,fv,gv] 64 o;simp only[World.size_setCell]at this;rw[this];exact hv
 rw[hwx]at hB4 aD hsz hle hO2⊢;have nA:=afv hO2 hle;have geK:∀b,(aK T N nv vf vg wx.heap.size).K b->w2.heap.size+2<=b:=λb hb=>Bt.ge nA hb;have XY:Below w.heap.size w wx:=hBw.trans (hB4.mono (by omega));refine⟨XY,hle,by omega,λo ho=>(aD.cell (by simp)).trans ?_,λo=>(aD.frozen (by simp)).trans (by simp[go_sem]),λg c tC=> ?_,λg c hgv=> ?_,tabs _ _ _,afA hf,nA,?_⟩
 ·rcases o with _|_|_|o
  ·simp[go_sem]
  ·simp[go_sem]
  ·simp[go_sem]
  ·omega
 ·exact((hO.own .fh _ rfl).lt g (by simp only;rw[tC];rfl)).1
 ·exact((hO.own .gh _ rfl).lt g (by simp only;rw[hgv];rfl)).1
 ·have past:∀b o,b<wx.heap.size->(wx.alloc (.cells #[.bool true] 4)).cell? ⟨b,o,none⟩=wx.cell? ⟨b,o,none⟩:=λb o hb=>dB _ _ _ hb
  refine⟨?_,?_,?_,?_,λhK=> ?_,λhK=> ?_,?_,afw hO2 _,afx hO2 _⟩
  ·rw[past _ _ (by omega)];exact(aD.cell (by simp)).trans (by simp[go_sem])
  ·rw[past _ _ (by omega)];exact rD 0 nv rfl
  ·rw[past _ _ (by omega)];exact rD 1 fv rfl
  ·rw[past _ _ (by omega)];exact rD 2 gv rfl
  ·have:=geK _ hK;omega
  ·obtain⟨i,n,hd,hb⟩:=hK
   cases hx:qK i with
   |some x=>
    have hP:(aK T N nv vf vg wx.heap.size).P (tabs (List.replicate N false) (List.replicate N (List.replicate T false)) (List.replicate N (List.replicate (T+1) false))) i=some ⟨(aK T N nv vf vg wx.heap.size).V i,4,1,n,_⟩:=eP.BU hd;rw[Qi (sb:=sb) (fv:=fv) (gv:=gv) _ i x hx]at hP;have:=(hO.lt hP hb).2;omega
   |none=>
    cases i<;>simp[qK]at hx;simp only[aK,Value.ownBlock,bM]at hb;omega
  ·exact((hr.below XY).below ((ai _ _).alloc (by omega) _)).mono (by omega)
theorem kP.setOther{w:World}{K:Nat->Prop}{N B:Nat}{fv:Value}{vs:Nat->Value}(h:kP w K N fv vs)(hB:∀g c,fv= .slice (some ⟨g,0,none⟩) N c->B<=g){a:Addr}(ha:a.block<B)(u:Value):kP (w.setCell a u) K N fv vs:=
 ⟨h.1,λn hn=>by
   obtain⟨g,c,h1,h2,h3⟩:=h.2 n hn;have:=hB g c h1
   exact⟨g,c,h1,h2,(jW (.inl (by simp only;omega))).trans h3⟩⟩
theorem Qk{w:World}{T N:Nat}{rv:Value}{R:List Ru}(hr:aG w w.heap.size rv R)(hm:aJ T N R=true):
 Calls Tryz.prog 19 #[.agg #[.int .i64 T,.int .i64 N,rv]] w λe w'=> ∃nv fv gv vf vg,e= .returned (.tuple #[.agg #[nv,fv,gv],.int .i64 0])/\Below w.heap.size w w'/\
  ∃gb B Y,w.heap.size<=B/\qi T N R Y/\bit Y .gr 0=false/\Bt w' B (aK T N nv vf vg gb) Y/\kP w' (aK T N nv vf vg gb).K N fv vf/\kP w' (aK T N nv vf vg gb).K N gv vg:=by
 obtain⟨hT,hN1,hN,hRl,_⟩:=iD hm;obtain⟨hfi,EK⟩:=LK hm;obtain⟨ra,rc,aI⟩:=hr.1;subst aI;have may:=oD (T:=T) (N:=N) ((hr.boxed (.cells #[.int .i64 T,.int .i64 N,.slice ra R.length rc] 27)).boxed (.cells #[.slice none 0 0,.slice none 0 0,.slice none 0 0] 64));rw[hm]at may;have HR:Hid (aG w w.heap.size (.slice ra R.length rc) R):=hr;have HF:Hid (dD T N R):=hfi;have HQ:Hid (∀q,q<R.length->xW T N (R.getD q (0,[]))/\(R.getD q (0,[])).2.length<=8):=EK;clear hr hm hfi EK
 go_enter Tryz.func19,Tryz.ntmps19
 go_wp2_with
  (first
   |(go_at_call 18;refine may.mono ?_;rintro e w2 ⟨rfl,hB2⟩
     have b0:w2.cell? ⟨w.heap.size,0,none⟩=some (.int .i64 T):=(hB2.cell (by simp;omega)).trans (by simp[go_sem]);have b1:w2.cell? ⟨w.heap.size,1,none⟩=some (.int .i64 N):=(hB2.cell (by simp;omega)).trans (by simp[go_sem]);have b2:w2.cell? ⟨w.heap.size,2,none⟩=some (.slice ra R.length rc):=(hB2.cell (by simp;omega)).trans (by simp[go_sem]);have hs2:w.heap.size+2<=w2.heap.size:=by have:=hB2.size;simp at this;omega
     have HB2:Hid (Below (w.heap.size+2) ((w.alloc (.cells #[.int .i64 T,.int .i64 N,.slice ra R.length rc] 27)).alloc (.cells #[.slice none 0 0,.slice none 0 0,.slice none 0 0] 64)) w2):=hB2.mono (by simp)
     clear hB2)
   |(go_at_call 43;refine(afB hT hN).mono ?_;rintro e w3 ⟨nv,fv,gv,vf,vg,sb,rfl,hB3,hO3⟩
     obtain⟨na,nc,rfl⟩:∃a c,nv= .slice a N c:=cO (hO3.own .null _ rfl);obtain⟨fa,fc,rfl⟩:∃a c,fv= .slice a N c:=cO (hO3.own .fh _ rfl);have HB3:Hid (Below w2.heap.size w2 w3):=hB3;have HO3:Hid (aA w3 (w2.heap.size+2) (bZ sb T N N N (.slice na N nc) (.slice fa N fc) gv vf vg (List.replicate N false) (List.replicate N (List.replicate T false)) (List.replicate N (List.replicate (T+1) false)))):=hO3;obtain⟨gg,gc,hgv,_,afE⟩:=hO3.form (i:= .gh) rfl (by simp only;omega);simp only at hgv;subst hgv;obtain⟨g0,c0,hg0,_,afF⟩:=hO3.form (i:= .g 0) (r:=⟨vg 0,4,1,T+1,((List.replicate N (List.replicate (T+1) false)).getD 0 []).map Value.bool⟩) (by simp[bZ,show 0<N by omega]) (by simp only;omega);simp only at hg0;have k0:=(hO3.own .gh _ rfl).cellAt 0 (by simp only;omega);have k1:=hO3.own (.g 0) _ (by simp[bZ,show 0<N by omega];rfl);simp only[hg0]at k1;have k2:=k1.cellAt T (by omega);have k3:=k1.frozenAt T;have d0:=(hB3.cell (p:=⟨w.heap.size,0,none⟩) (by simp only;omega)).trans b0;have hs3:=hB3.size;have XZ:Hid (vg 0= .slice (some ⟨g0,0,none⟩) (T+1) c0):=hg0
     have rT:Hid (w3.cell? ⟨gg,0,none⟩=some (vg 0)):=by
      show w3.cell? ⟨gg,0,none⟩=some (vg 0);rw[k0];simp[show 0<N by omega]
     have fQ:Hid (∃x,w3.cell? ⟨g0,T,none⟩=some (.bool x)):=by
      show ∃x,w3.cell? ⟨g0,T,none⟩=some (.bool x);rw[k2];exact⟨false,by simp⟩
     clear hB3 hO3 k1 k0 k2))
 have j0:(0:Int)<=(T:Int):=aF _;have j1:(T:Int)<(T:Int)+1:=by omega
 have j2:0<N:=by omega
 have hg0:=XZ.out;have k0:=rT.out;obtain⟨x,k2⟩:=fQ.out;have m0:(w3.alloc (.cells #[.slice na N nc,.slice fa N fc,.slice (some ⟨gg,0,none⟩) N gc] 64)).cell? ⟨gg,0,none⟩=some (vg 0):=by rw[dB _ _ _ afE];exact k0
 have m1:(w3.alloc (.cells #[.slice na N nc,.slice fa N fc,.slice (some ⟨gg,0,none⟩) N gc] 64)).cell? ⟨w.heap.size,0,none⟩=some (.int .i64 T):=by rw[dB _ _ _ (by omega)];exact d0
 have m2:(w3.alloc (.cells #[.slice na N nc,.slice fa N fc,.slice (some ⟨gg,0,none⟩) N gc] 64)).cell? ⟨g0,T,none⟩=some (.bool x):=by rw[dB _ _ _ afF];exact k2
 clear b0 b1 b2 d0 k0
 go_cut [] from 11 to 22 (λwx=>Ready w (w2.heap.size+2) T N w3.heap.size (.slice ra R.length rc) (.slice na N nc) (.slice fa N fc) (.slice (some ⟨gg,0,none⟩) N gc) vf vg R wx)
 case first=>
  refine xq 7 (by kernel_rfl) (by kernel_rfl) ?_;simp only[List.take_succ_cons,List.take_zero,qP,om]
  repeat still_step
  refine xg ?_
  go_wp2_with fail
  go_meet
  case rel=>exact afD HF.out HR.out HB2.out HB3.out HO3.out XZ.out
 case rest=>
  obtain⟨X,hA,nA,hE⟩:=hcut.st;have X3:=afu nA hcut.size hE HF.out HQ.out hT hRl hA;have HC:Hid (Ready w (w2.heap.size+2) T N w3.heap.size (.slice ra R.length rc) (.slice na N nc) (.slice fa N fc) (.slice (some ⟨gg,0,none⟩) N gc) vf vg R wc):=hcut;have X4:Hid (Bt (wc.alloc (.cells #[.bool true] 4)) (w2.heap.size+2) (aK T N (.slice na N nc) vf vg wc.heap.size) X):=nA;have HE:Hid (Env (wc.alloc (.cells #[.bool true] 4)) (w2.heap.size+2) T N (aK T N (.slice na N nc) vf vg wc.heap.size).K w.heap.size w3.heap.size (.slice ra R.length rc) (.slice na N nc) (.slice fa N fc) (.slice (some ⟨gg,0,none⟩) N gc) vf vg R):=hE;have z2:wc.cell? ⟨w.heap.size,2,none⟩=some (.slice ra R.length rc):=(dB _ _ _ (by have:=hcut.size;have:=hcut.base;omega)).symm.trans hE.g2;clear hcut nA hE hA m0 m1 m2 k2 k3 hg0
  go_wp2_with
   (go_at_call 44;refine X3.mono ?_;rintro e w5 ⟨rfl,Y,IA,hgY,aD,vY⟩
    have n0:=vY.cell HE.out.sK HE.out.s0;have n1:=vY.cell HE.out.sK HE.out.s1;have n2:=vY.cell HE.out.sK HE.out.s2;have LQ:¬(aK T N (.slice na N nc) vf vg wc.heap.size).K (w.heap.size+1):=λhK=>by have:=Bt.ge X4.out hK;omega
    have hrl:w.heap.size+1<wc.heap.size:=by have:=HC.out.size;omega
    have r0:=vY.cell (p:=⟨w.heap.size+1,0,none⟩) LQ ((dB _ _ _ hrl).trans (HC.out.res 0 (by omega)));have r1:=vY.cell (p:=⟨w.heap.size+1,1,none⟩) LQ ((dB _ _ _ hrl).trans (HC.out.res 1 (by omega)));have r2:=vY.cell (p:=⟨w.heap.size+1,2,none⟩) LQ ((dB _ _ _ hrl).trans (HC.out.res 2 (by omega)));have hal:Below wc.heap.size wc (wc.alloc (.cells #[.bool true] 4)):=(ai _ _).alloc (ah _) _;have rf:∀o,w5.frozen? ⟨w.heap.size+1,o,none⟩=false:=λo=>(vY.frozen LQ (by simp;omega)).trans ((hal.frozen hrl).trans (HC.out.fro o));have HX:Hid (Below w.heap.size w w5):=(HC.out.below.trans (hal.mono (by omega))).trans (vY.below (λb hb=>by have:=Bt.ge X4.out hb;omega) (by simp;omega));have HY:Hid (qi T N R Y/\bit Y .gr 0=false/\Bt w5 (w2.heap.size+2) (aK T N (.slice na N nc) vf vg wc.heap.size) Y/\kP w5 (aK T N (.slice na N nc) vf vg wc.heap.size).K N (.slice fa N fc) vf/\kP w5 (aK T N (.slice na N nc) vf vg wc.heap.size).K N (.slice (some ⟨gg,0,none⟩) N gc) vg):=⟨IA,hgY,aD,HE.out.hF.kept vY,HE.out.hG.kept vY⟩
    clear IA hgY aD vY X3 hal z2)
  refine aH (v:= .tuple #[.agg #[.slice na N nc,.slice fa N fc,.slice (some ⟨gg,0,none⟩) N gc],.int .i64 0]) (by simp[results,Tryz.results19,go_sem,r0,r1,r2]) rfl ⟨_,_,_,vf,vg,rfl,?_,wc.heap.size,w2.heap.size+2,Y,by omega,HY.out.1,HY.out.2.1,?_,?_,?_⟩
  ·exact((HX.out.setCell (by simp) _).setCell (by simp) _).setCell (by simp) _
  ·exact((aA.xk HY.out.2.2.1 (by simp;omega) _).xk (by simp;omega) _).xk (by simp;omega) _
  ·exact((HY.out.2.2.2.1.setOther (B:=w2.heap.size+2) HC.out.fB (by simp;omega) _).setOther HC.out.fB (by simp;omega) _).setOther HC.out.fB (by simp;omega) _
  ·exact((HY.out.2.2.2.2.setOther (B:=w2.heap.size+2) HC.out.gB (by simp;omega) _).setOther HC.out.gB (by simp;omega) _).setOther HC.out.gB (by simp;omega) _
theorem IJ{X Y:List Bool}(hl:X.length=Y.length)(h:∀i,i<X.length->(X.getD i false=true↔Y.getD i false=true)):X=Y:=by
 refine wP hl λi h1 h2=> ?_;have:=h i h1;simp[List.getD,h1,h2]at this;exact this
theorem X5{X Y:List (List Bool)}(hl:X.length=Y.length)(h:∀i,i<X.length->X.getD i []=Y.getD i []):X=Y:=by
 refine wP hl λi h1 h2=> ?_;have:=h i h1;simpa [List.getD,h1,h2] using this
section
variable{w:World}{B T N gb:Nat}{nv fv gv:Value}{vf vg:Nat->Value}{R:List Ru}{Y:Xs}
theorem Ql{c:eP Iy}{i:Iy}{n:Nat}(h:Bt w B c Y)(hd:c.dom i=some n):kg w (c.V i) (Y i):=adn (h.own hd)
theorem LU(h:Bt w B (aK T N nv vf vg gb) Y):kg w nv (Y .null):=Ql (c:=aK T N nv vf vg gb) (i:= .null) (n:=N) h rfl
theorem Qm(h:Bt w B (aK T N nv vf vg gb) Y)(hF:kP w (aK T N nv vf vg gb).K N fv vf):oN w fv ((List.range N).map λn=>Y (.f n)):=by
 refine⟨by simpa using hF.1,λi hi=> ?_⟩;simp only[cK,qR]at hi;obtain⟨g,c,h1,_,h3⟩:=hF.2 i hi;refine⟨g,0,c,vf i,by simpa using h1,by rw[eO];exact h3,?_⟩;have e:((List.range N).map λn=>Y (.f n)).getD i []=Y (.f i):=by simp[List.getD,hi]
 rw[e];exact Ql (c:=aK T N nv vf vg gb) (i:= .f i) (n:=T) h (by simp[aK,bP,hi])
theorem X6(h:Bt w B (aK T N nv vf vg gb) Y)(hF:kP w (aK T N nv vf vg gb).K N gv vg):oN w gv ((List.range N).map λn=>Y (.g n)):=by
 refine⟨by simpa using hF.1,λi hi=> ?_⟩;simp only[cK,qR]at hi;obtain⟨g,c,h1,_,h3⟩:=hF.2 i hi;refine⟨g,0,c,vg i,by simpa using h1,by rw[eO];exact h3,?_⟩;have e:((List.range N).map λn=>Y (.g n)).getD i []=Y (.g i):=by simp[List.getD,hi]
 rw[e];exact Ql (c:=aK T N nv vf vg gb) (i:= .g i) (n:=T+1) h (by simp[aK,bP,hi])
theorem afG(hf:dD T N R)(hA:qi T N R Y)(hg:bit Y .gr 0=false):
 Y .null=iL R N/\((List.range N).map λn=>Y (.f n))=mU R (iL R N) T N/\((List.range N).map λn=>Y (.g n))=KO R (iL R N) (mU R (iL R N) T N) T N:=by
 obtain⟨l1,l2,l3⟩:=Qg hf hA.dw hA.snd (hA.held hg) hA.fin;obtain⟨n1,n2⟩:=Vv hf;obtain⟨f1,f2⟩:=Vx hf n2;obtain⟨g1,g2⟩:=ado hf n2 f2;have sN:=hA.dw .null N rfl;have sF:∀n,n<N->(Y (.f n)).length=T:=λn hn=>hA.dw (.f n) T (by simp[bP,hn]);have sG:∀n,n<N->(Y (.g n)).length=T+1:=λn hn=>hA.dw (.g n) (T+1) (by simp[bP,hn]);refine⟨IJ (by omega) λi hi=> ?_,X5 (by simp[f1.1]) λi hi=> ?_,X5 (by simp[g1.1]) λi hi=> ?_⟩
 ·have h1:=l1 i (by omega)
  have h2:=n2 (i:Int);unfold nS at h2;simp only[Int.toNat_natCast]at h2;exact h1.trans (h2.symm.trans ⟨λh=>h.2,λh=>⟨aF _,h⟩⟩)
 ·simp only[cK,qR]at hi
  have e:((List.range N).map λn=>Y (.f n)).getD i []=Y (.f i):=by simp[List.getD,hi]
  rw[e];refine IJ (by rw[sF i hi,f1.2 i hi]) λt ht=> ?_;rw[sF i hi]at ht;have h1:=l2 i t hi ht;have h2:=f2 t ht (i:Int);unfold fV at h2;simp only[Int.toNat_natCast]at h2;exact h1.trans (h2.symm.trans ⟨λh=>h.2,λh=>⟨aF _,h⟩⟩)
 ·simp only[cK,qR]at hi
  have e:((List.range N).map λn=>Y (.g n)).getD i []=Y (.g i):=by simp[List.getD,hi]
  rw[e];refine IJ (by rw[sG i hi,g1.2 i hi]) λt ht=> ?_;rw[sG i hi]at ht;have h1:=l3 i t hi ht;have h2:=g2 t ht (i:Int);unfold fV at h2;simp only[Int.toNat_natCast]at h2;exact h1.trans (h2.symm.trans ⟨λh=>h.2,λh=>⟨aF _,h⟩⟩)
end
def EM(w:World)(T N:Nat)(rv nv fv wv:Value):gL:=⟨w.heap.size+1+1,w.heap.size,w.heap.size+1,T,N,rv,nv,fv,wv⟩
def EN:dK:=⟨.slice none 0 0,λ_=> .slice none 0 0,.slice none 0 0,[]⟩
theorem afH(w:World)(T N:Nat)(rv nv fv wv:Value):
 aB w (((w.alloc (.map #[] 0)).alloc (.map #[] 0)).alloc (.cells #[.int .i64 T,.int .i64 N,rv,nv,fv,wv,.slice none 0 0,.map (some w.heap.size),.map (some (w.heap.size+1)),.slice none 0 0] 112)) (EM w T N rv nv fv wv) EN (bE T []) 0 ⟨λ_=>0,[],0⟩:=by
 have m1:=Gv w Tryz.prog 162 tu;have m2:=Gv (w.alloc (.map #[] 0)) Tryz.prog 164 qE;simp only[lU]at m2;have eL:(λ_=>none)=xO (λ_=>0):=by funext x;simp[xO]
 refine⟨⟨λi r hr=> ?_,λi j x y hij hx hy g h1 h2=> ?_⟩,((m1.alloc _).alloc _).congr (adx T).symm,(m2.alloc _).congr eL,by simp only[EM];omega,by simp only[EM];omega,(((ai _ _).alloc (ah _) _).alloc (by simp) _).alloc (by simp;omega) _⟩
 ·cases i with
  |ma=>
   simp only[jr,bM]at hr;subst hr;have:=sM (base:=w.heap.size) (e:=112) (size:=10) ((w.alloc (.map #[] 0)).alloc (.map #[] 0)) #[.int .i64 T,.int .i64 N,rv,nv,fv,wv,.slice none 0 0,.map (some w.heap.size),.map (some (w.heap.size+1)),.slice none 0 0] 1 (by simp;omega) (by unfold maxLen;omega) rfl;simp only[lU]at this;exact this
  |st=>simp only[jr,bM]at hr;subst hr;exact ji _ _ _ _
  |op=>simp only[jr,bM]at hr;subst hr;exact ji _ _ _ _
  |it k=>simp[jr,EN]at hr
 ·cases i<;>cases j<;>simp only[jr,EN,bM,List.length_nil,iI,bN,reduceCtorEq]at hx hy<;>subst hx<;>subst hy<;>first|exact hij rfl|(cases h2;done)|(cases h1;done)
theorem all_zero{T N:Nat}{R:List Ru}(K:Nat):0<(ax T N R K).2.length/\(ax T N R K).2.getD 0 cu=Cl R λi=>i=(R.length,0):=by
 obtain⟨E,hE⟩:=OV (T:=T) (N:=N) (R:=R) 0 K (aP _);have h0:(ax T N R 0).2=[Cl R λi=>i=(R.length,0)]:=rfl;rw[hE,h0];exact⟨by simp,by simp[List.getD]⟩
theorem afI{w:World}{T N:Nat}{rv nv fv wv:Value}{R:List Ru}(hm:aJ T N R=true)(hr:aG w w.heap.size rv R)(hn:kg w nv (iL R N))(hfi:oN w fv (mU R (iL R N) T N)):kM w (EM w T N rv nv fv wv) R (iL R N) (mU R (iL R N) T N):=by
 obtain⟨hT,hN1,hN,hRl,h5⟩:=iD hm;obtain⟨hf,h8⟩:=LK hm;obtain⟨n1,n2⟩:=Vv hf;obtain⟨f1,f2⟩:=Vx hf n2;refine⟨hr,hn,hfi,n1,f1.1,f1.2,hT,⟨hN1,hN⟩,hRl,λq hq=>(h8 q hq).2,λr hr s hs=> ?_⟩;unfold aR at hs;split at hs
 ·simp only[gG]at hs
  subst hs;exact⟨λh=>(nomatch h),λ_=>⟨by simp,by simp[EM];omega⟩⟩
 ·have hm':R.getD r (0,[])∈R:=by simp[List.getD,show r<R.length by omega]
  exact⟨λh=>hf.term _ hm' _ hs h,λh=>hf.name _ hm' _ hs h⟩
theorem X7{w:World}{T N:Nat}{rv:Value}{R:List Ru}(hr:aG w w.heap.size rv R)(hm:aJ T N R=true):
 Calls Tryz.prog 22 #[.agg #[.int .i64 T,.int .i64 N,rv]] w λe w'=>
  (e= .returned (.tuple #[.agg #[.slice none 0 0,.slice none 0 0],.int .i64 1])/\Below w.heap.size w w'/\More T N R 150)\/
  ∃K cv gv,e= .returned (.tuple #[.agg #[cv,gv],.int .i64 0])/\Below w.heap.size w w'/\Whole T N R K/\K<=150/\∀w'':World,(∀b,w.heap.size<=b->b<w'.heap.size->w''.heap[b]?=w'.heap[b]?)->TabAt w'' cv gv (dF T N R K) (jo T N R K):=by
 obtain⟨ra,rc,aI⟩:=hr.1;subst aI;have hr1:=(hr.boxed (.cells #[.int .i64 T,.int .i64 N,.slice ra R.length rc] 27)).boxed (.cells #[.slice none 0 0,.slice none 0 0] 73);have sets:=Qk (T:=T) (N:=N) hr1 hm;have HR1:Hid (aG ((w.alloc (.cells #[.int .i64 T,.int .i64 N,.slice ra R.length rc] 27)).alloc (.cells #[.slice none 0 0,.slice none 0 0] 73)) ((w.alloc (.cells #[.int .i64 T,.int .i64 N,.slice ra R.length rc] 27)).alloc (.cells #[.slice none 0 0,.slice none 0 0] 73)).heap.size (.slice ra R.length rc) R):=hr1;have HM:Hid (aJ T N R=true):=hm;have HB0:Hid (Below w.heap.size w ((w.alloc (.cells #[.int .i64 T,.int .i64 N,.slice ra R.length rc] 27)).alloc (.cells #[.slice none 0 0,.slice none 0 0] 73))):=((ai _ _).alloc (ah _) _).alloc (by simp) _;clear hr hm hr1;have hmm:= @run_makeMap Tryz.prog
 go_enter Tryz.func22,Tryz.ntmps22
 go_upto_region 5 with
  (go_at_call 19;refine sets.mono ?_;rintro e w2 ⟨nv,fv,gv,vf,vg,rfl,hB2,gb,B,Y,hBB,hA,hg,nA,hF,hG⟩
   obtain⟨na,nc,zx⟩:=(LU nA).1;obtain⟨fa,fc,tC⟩:=hF.1;obtain⟨ga,gc,hgv⟩:=hG.1;have hN':nv= .slice na N nc:=by rw[zx,hA.dw .null N rfl]
   clear zx;subst hN';subst tC;subst hgv;have hs2:w.heap.size+2<=w2.heap.size:=by have:=hB2.size;simp at this;omega
   have x0:w2.cell? ⟨w.heap.size+1,0,none⟩=some (.slice none 0 0):=(hB2.cell (by simp)).trans (by simp[go_sem]);have x1:w2.cell? ⟨w.heap.size+1,1,none⟩=some (.slice none 0 0):=(hB2.cell (by simp)).trans (by simp[go_sem]);have xf0:w2.frozen? ⟨w.heap.size+1,0,none⟩=false:=(hB2.frozen (by simp)).trans (by simp[go_sem]);have xf1:w2.frozen? ⟨w.heap.size+1,1,none⟩=false:=(hB2.frozen (by simp)).trans (by simp[go_sem]);have b0:w2.cell? ⟨w.heap.size,0,none⟩=some (.int .i64 T):=(hB2.cell (by simp;omega)).trans (by simp[go_sem]);have b1:w2.cell? ⟨w.heap.size,1,none⟩=some (.int .i64 N):=(hB2.cell (by simp;omega)).trans (by simp[go_sem]);have b2:w2.cell? ⟨w.heap.size,2,none⟩=some (.slice ra R.length rc):=(hB2.cell (by simp;omega)).trans (by simp[go_sem]);have HR2:Hid (aG w2 w2.heap.size (.slice ra R.length rc) R):=(HR1.out.below hB2).mono hB2.size;have HD1:Hid (kg w2 (.slice na N nc) (Y .null)):=LU nA;have HD2:Hid (oN w2 (.slice fa N fc) ((List.range N).map λn=>Y (.f n))):=Qm nA hF;have HE:Hid (Y .null=iL R N/\((List.range N).map λn=>Y (.f n))=mU R (iL R N) T N/\((List.range N).map λn=>Y (.g n))=KO R (iL R N) (mU R (iL R N) T N) T N):=afG (LK HM.out).1 hA hg;have HB2:Hid (Below w.heap.size w w2):=HB0.out.trans (hB2.mono (by simp;omega));have hal:Below w2.heap.size w2 (w2.alloc (.cells #[.slice na N nc,.slice fa N fc,.slice ga N gc] 64)):=(ai _ _).alloc (ah _) _;have y0:=(hal.cell (p:=⟨w.heap.size,0,none⟩) (by simp only;omega)).trans b0;have y1:=(hal.cell (p:=⟨w.heap.size,1,none⟩) (by simp only;omega)).trans b1;have y2:=(hal.cell (p:=⟨w.heap.size,2,none⟩) (by simp only;omega)).trans b2
   clear hB2 hal hBB hA hg nA hF hG sets b0 b1 b2)
 clear hmm y0 y1 y2;obtain⟨W3,hW3⟩:=af (w2.alloc (.cells #[.slice na N nc,.slice fa N fc,.slice ga N gc] 64));have hs3:W3.heap.size=w2.heap.size+1:=by rw[<-hW3];simp
 have hB3:Below w2.heap.size w2 W3:=by rw[<-hW3];exact(ai _ _).alloc (ah _) _
 have hst:=afH W3 T N (.slice ra R.length rc) (.slice na N nc) (.slice fa N fc) (.slice ga N gc);have E:=afI (wv:= .slice ga N gc) HM.out ((HR2.out.below hB3).mono (by omega)) (by have:=HD1.out;rw[HE.out.1]at this;exact this.same (ko hB3)) (by have:=HD2.out;rw[HE.out.2.1]at this;exact this.same (ko hB3))
 have EO:Hid (∀wq,Below W3.heap.size W3 wq->wq.cell? ⟨w.heap.size+1,0,none⟩=some (.slice none 0 0)/\wq.cell? ⟨w.heap.size+1,1,none⟩=some (.slice none 0 0)/\wq.frozen? ⟨w.heap.size+1,0,none⟩=false/\wq.frozen? ⟨w.heap.size+1,1,none⟩=false/\Below w.heap.size w wq):=λwq hb=>by
  have hb2:Below w2.heap.size w2 wq:=hB3.trans (hb.mono (by omega));exact⟨(hb2.cell (p:=⟨w.heap.size+1,0,none⟩) hs2).trans x0,(hb2.cell (p:=⟨w.heap.size+1,1,none⟩) hs2).trans x1,(hb2.frozen (p:=⟨w.heap.size+1,0,none⟩) hs2).trans xf0,(hb2.frozen (p:=⟨w.heap.size+1,1,none⟩) hs2).trans xf1,HB2.out.trans (hb2.mono (by omega))⟩
 have hfr:∀n,((mU R (iL R N) T N).getD n []).length<=T:=λn=>by
  by_cases hn:n<N
  ·exact Nat.le_of_eq (E.Cn n hn)
  ·have:(mU R (iL R N) T N).length=N:=E.A7
   simp[List.getD,List.getElem?_eq_none (show (mU R (iL R N) T N).length<=n by omega)]
 obtain⟨d,hd⟩:=af (EM W3 T N (.slice ra R.length rc) (.slice na N nc) (.slice fa N fc) (.slice ga N gc));have hT:d.T=T:=by rw[<-hd];rfl
 have hN:d.N=N:=by rw[<-hd];rfl
 have hma:d.ma=w2.heap.size+1+1+1:=by rw[<-hd];show W3.heap.size+1+1=_;rw[hs3]
 rw[hd]at hst E;rw[hW3];rw[hs3]at hst;obtain⟨W4,dS⟩:=af ((((W3.alloc (.map #[] 0)).alloc (.map #[] 0)).alloc (.cells #[.int .i64 T,.int .i64 N,.slice ra R.length rc,.slice na N nc,.slice fa N fc,.slice ga N gc,.slice none 0 0,.map (some (w2.heap.size+1)),.map (some (w2.heap.size+1+1)),.slice none 0 0] 112)));rw[dS]at hst⊢;subst hT;subst hN;have HST:Hid (aB W3 W4 d EN (bE d.T []) 0 ⟨λ_=>0,[],0⟩):=hst;have LV:Hid (kM W3 d R (iL R d.N) (mU R (iL R d.N) d.T d.N)):=E;have HFR:Hid (∀n,((mU R (iL R d.N) d.T d.N).getD n []).length<=d.T):=hfr;have fs:=aeM E hst rfl;rw[hma]at fs;have X8:Hid (d.ma=w2.heap.size+1+1+1):=hma;clear hW3 dS hB3 hd hst E hfr hma x0 x1 xf0 xf1 HR1 HR2 HD1 HD2 HE HB0 HB2;have X9:Hid (W3.heap.size=w2.heap.size+1):=hs3;clear hs3;by_cases hmore:More d.T d.N R 150
 ·have Ya:Calls Tryz.prog 50 #[.pointer (some ⟨w2.heap.size+1+1+1,0,none⟩)] W4 λe w5=>e= .returned (.bool false)/\Below W3.heap.size W4 w5:=fs.mono λe w5 h=>by
   rcases h with⟨h1,_,h2⟩|⟨_,K,v',ng,h3,h4⟩
   ·exact⟨h1,h2⟩
   ·refine absurd hmore (AP (K:=K) ?_ (by rw[<-h4];exact h3.few))
    unfold Whole;rw[<-h3.s.len];exact h4
  clear fs
  go_wp2_with
   (go_at_call 50;refine Ya.mono ?_;rintro e w5 ⟨rfl,aD⟩
    obtain⟨x0,x1,xf0,xf1,hb5⟩:=EO.out w5 (HST.out.since.trans aD);have gP:Hid (Below w.heap.size w w5):=hb5
    clear hb5 aD Ya)
  refine aH (v:= .tuple #[.agg #[.slice none 0 0,.slice none 0 0],.int .i64 1]) (by simp[results,Tryz.results22,go_sem,x0,x1]) rfl (.inl ⟨rfl,(gP.out.setCell (by simp) _).setCell (by simp) _,hmore⟩)
 ·have fsF:Calls Tryz.prog 50 #[.pointer (some ⟨w2.heap.size+1+1+1,0,none⟩)] W4 λe w5=>e= .returned (.bool true)/\∃K v' ng,F1 W3 W4 d EN ⟨λ_=>0,[],0⟩ R K v' ng w5/\v'.OL.length=K:=fs.mono λe w5 h=>by
   rcases h with⟨_,h1,_⟩|h
   ·exact absurd h1 hmore
   ·exact h
  clear fs
  go_wp2_with
   (first
    |(go_at_call 50;refine fsF.mono ?_;rintro e w5 ⟨rfl,K,v',ng,hF1,hK⟩
      have hz:=all_zero (T:=d.T) (N:=d.N) (R:=R) K;obtain⟨Qn,hW⟩:=afg hF1.s hK (⟨by show 0<v'.OL.length;rw[hF1.s.len];exact hz.1,((hF1.s.lI 0 (by rw[hF1.s.len];exact hz.1)).mem _).2 (by rw[hz.2];exact Cl.base rfl)⟩) LV.out.sym;have rP:ng<=10000000:=by have:=hF1.ng;have:=hF1.few;have:=hF1.le;omega
      have fl:=ael LV.out hF1.m Qn hF1.few rP;rw[X8.out]at fl;have IK:Hid (F1 W3 W4 d EN ⟨λ_=>0,[],0⟩ R K v' ng w5/\v'.OL.length=K):=⟨hF1,hK⟩;have LX:Hid (lJ d.T d.N R v'.OL (ax d.T d.N R K).1 (ax d.T d.N R K).2/\Whole d.T d.N R K):=⟨Qn,hW⟩
      clear hF1 hK hz Qn hW)
    |(go_at_call 51;refine fl.mono ?_;rintro e w6 ⟨rfl,aL,st',lM,hL6,tF⟩
      have tab:=afa (v:={ v' with ov:=aL }) LV.out lM IK.out.1.s IK.out.1.few rP hL6.c hL6.lk (λk hk n hn=>afd LX.out.1 hk hn) (λk hk n hn=>afe LX.out.1 hk hn);rw[X8.out]at tab;have GD:Hid (Ib d.T d.N R v'.OL (ax d.T d.N R K).1 (ax d.T d.N R K).2 (iL R d.N) (mU R (iL R d.N) d.T d.N) st'):=hL6;have qg:Hid (aB W3 w6 d { v' with ov:=aL } (bE d.T (ax d.T d.N R K).1) ng st'):=lM
      clear lM hL6 tF fl)
    |(go_at_call 52;refine tab.mono ?_;rintro e w7 ⟨cv,gv,rfl,xS,iM⟩
      obtain⟨x0,x1,xf0,xf1,IL⟩:=EO.out w7 (qg.out.since.trans (iM.mono qg.out.le));have LY:Hid (Below w.heap.size w w7):=IL
      have HT7:Hid (∀w'':World,(∀b,w6.heap.size<=b->b<w7.heap.size->w''.heap[b]?=w7.heap[b]?)->TabAt w'' cv gv (dF d.T d.N R K) (jo d.T d.N R K)):=λw'' hw=>by
       have h9:=xS w'' hw;obtain⟨e1,e2⟩:=aff LV.out.hN.1 LX.out.1 IK.out.2 HFR.out GD.out;rw[<-e1,<-e2];exact h9
      obtain⟨ca,cc,hcv⟩:=(xS w7 (λ_ _ _=>rfl)).cells.1;obtain⟨Yb,Yc,hgv⟩:=(xS w7 (λ_ _ _=>rfl)).goto.1;simp only[cK,qR]at hcv hgv;subst hcv;subst hgv
      clear IL iM xS))
  refine aH (v:= .tuple #[.agg #[.slice ca v'.OL.length cc,.slice Yb v'.OL.length Yc],.int .i64 0]) (by simp[results,Tryz.results22,go_sem,x0,x1]) rfl (.inr ⟨K,.slice ca v'.OL.length cc,.slice Yb v'.OL.length Yc,rfl,(LY.out.setCell (by simp) _).setCell (by simp) _,LX.out.2,by rw[<-IK.out.2];exact IK.out.1.few,λw'' hw=>HT7.out _ λb hb hlt=> ?_⟩);have h6:=qg.out.le;rw[X9.out]at h6;rw[hw b (by omega) (by simpa using hlt),gm _ _ _ _ (by simp only;omega),gm _ _ _ _ (by simp only;omega)]
theorem Qo{w:World}{T N:Nat}{rv:Value}{R:List Ru}(hr:aG w w.heap.size rv R)(hm:aJ T N R=true):
 Calls Tryz.prog 22 #[.agg #[.int .i64 T,.int .i64 N,rv]] w λe w'=>
  (e= .returned (.tuple #[.agg #[.slice none 0 0,.slice none 0 0],.int .i64 1])/\Below w.heap.size w w'/\More T N R 150)\/
  ∃K cv gv,e= .returned (.tuple #[.agg #[cv,gv],.int .i64 0])/\Below w.heap.size w w'/\Whole T N R K/\K<=150/\TabAt w' cv gv (dF T N R K) (jo T N R K):=by
 refine(X7 hr hm).mono λe w' h=> ?_;rcases h with h|⟨K,cv,gv,h1,h2,h3,h4,h5⟩
 ·exact .inl h
 ·exact .inr ⟨K,cv,gv,h1,h2,h3,h4,h5 w' λ_ _ _=>rfl⟩
def Qp(c:Ce):Nat:=c.2.1.length+(if 0<=c.1 then 1 else 0)+(if c.2.2 then 1 else 0)
theorem afJ(c:Ce):decide (1<Qp c)= !AX c:=by
 obtain⟨sh,ru,en⟩:=c;unfold Qp AX;simp only;cases en<;>by_cases h:sh<0<;>by_cases h0:ru.length=0<;>by_cases h1:ru.length=1<;>simp[h,h0,h1,show (0<=sh)↔¬sh<0 by omega]<;>omega
theorem afK{w:World}{sh:Int}{ra:Option Addr}{n rc:Nat}{en:Bool}(hn:n<=1000):
 Calls Tryz.prog 53 #[.agg #[.int .i64 sh,.slice ra n rc,.bool en]] w λe w'=>e= .returned (.int .i64 ((n+(if 0<=sh then 1 else 0)+(if en then 1 else 0):Nat):Int))/\Below w.heap.size w w':=by
 have HB0:Hid (Below w.heap.size w (w.alloc (.cells #[.int .i64 sh,.slice ra n rc,.bool en] 117))):=(ai _ _).alloc (ah _) _
 go_enter Tryz.func53,Tryz.ntmps53
 by_cases h:0<=sh
 ·have hd:decide (0<=sh)=true:=aT h
  cases en
  ·go_wp2_with fail
   go_ret;exact⟨by simp,HB0.out⟩
  ·go_wp2_with fail
   go_ret;exact⟨by simp,HB0.out⟩
 ·have hd:decide (0<=sh)=false:=aU h
  cases en
  ·go_wp2_with fail
   go_ret;exact⟨by simp,HB0.out⟩
  ·go_wp2_with fail
   go_ret;exact⟨by simp,HB0.out⟩
theorem Qq{w:World}{cv gv:Value}{C:List (List Ce)}{G:List (List Int)}(h:TabAt w cv gv C G)(hC:C.length<=1000)(hR:∀i,i<C.length->(C.getD i []).length<=1000)(hU:∀i k,i<C.length->k<(C.getD i []).length->((C.getD i []).getD k (0,[],false)).2.1.length<=1000):
 Calls Tryz.prog 23 #[.agg #[cv,gv]] w λe w'=>e= .returned (.int .i64 (gZ C))/\Below w.heap.size w w':=by
 obtain⟨ca,cc,hcv⟩:=h.cells.1;obtain⟨ga,gc,hgv⟩:=h.goto.1;subst hcv;subst hgv;have HH:Hid (G9 w (.slice ca C.length cc) C):=h.cells;have HR:Hid (∀i,i<C.length->(C.getD i []).length<=1000):=hR;have HB0:Hid (Below w.heap.size w (w.alloc (.cells #[.slice ca C.length cc,.slice ga G.length gc] 73))):=(ai _ _).alloc (ah _) _
 have vI:Hid (∀wr,Below (w.heap.size+1) (w.alloc (.cells #[.slice ca C.length cc,.slice ga G.length gc] 73)) wr->wr.cell? ⟨w.heap.size,0,none⟩=some (.slice ca C.length cc)/\Below w.heap.size w wr/\w.heap.size+1<=wr.heap.size):=λwr hB=>
  ⟨(hB.cell (by simp)).trans (by simp[go_sem]),HB0.out.trans (hB.mono (by omega)),by have:=hB.size;simpa using this⟩
 have HU:Hid (∀i k,i<C.length->k<(C.getD i []).length->((C.getD i []).getD k (0,[],false)).2.1.length<=1000):=hU;clear h hR hU
 go_enter Tryz.func23,Tryz.ntmps23
 go_wp2_with fail
 obtain⟨WT,Yd⟩:=af (w.alloc (.cells #[.slice ca C.length cc,.slice ga G.length gc] 73));rw[Yd]at vI⊢;clear Yd HB0
 go_loopw [3,11] (λs3 s4 wr=> ∃i:Nat,s3= .int .i64 (gZ (C.take i))/\s4= .int .i64 i/\i<=C.length/\Below (w.heap.size+1) WT wr) (λ_ s _=>C.length-(intOf s).toNat)
 case atStart=>exact⟨0,rfl,rfl,aP _,ai _ _⟩
 case round=>
  obtain⟨i,rfl,rfl,hi,hB⟩:=hrel;have HB:Hid (Below (w.heap.size+1) WT wr):=hB;obtain⟨b0,hBw,hsz⟩:=vI.out wr hB;by_cases hlt:i<C.length
  ·have Ey:gZ (C.take i)<=i*1000:=by
    have:=VB (C:=C.take i) (m:=1000) λj hj=>by
     have hj':j<i:=by simp at hj;omega
     have e:(C.take i).getD j []=C.getD j []:=by simp[List.getD,hj']
     rw[e];exact HR.out j (by omega)
    simp only[fq]at this;rw[wU hi]at this;exact this
   obtain⟨Xr,rU⟩:=af (C.getD i []);have EP:Hid (C.getD i []=Xr):=rU;have hXl:Xr.length<=1000:=by rw[<-rU];exact HR.out i hlt
   obtain⟨b,o,c,rv,hv,d0,hcs⟩:=(HH.out.below hBw).2 i hlt;cases hv;rw[rU]at hcs;obtain⟨xa,xc,aI⟩:=hcs.1;subst aI;have i0:(0:Int)<=(i:Int):=aF _;have i1:(i:Int)<(C.length:Int):=by omega
   have xX:Hid (∀wq,Below wr.heap.size wr wq->G8 wq (.slice xa Xr.length xc) Xr):=λwq hb=>hcs.below hb;clear hB hBw rU hcs
   go_wp2_with fail
   clear b0 d0;obtain⟨wi,hwi⟩:=af wr;have xV:Hid (Below (w.heap.size+1) WT wi):=by rw[<-hwi];exact HB.out
   have hsz':w.heap.size+1<=wi.heap.size:=by rw[<-hwi];exact hsz
   rw[hwi]at xX
   go_loopw [3,17] (λs3 s5 wq=> ∃k:Nat,s3= .int .i64 ((gZ (C.take i)+qd (Xr.take k):Nat):Int)/\s5= .int .i64 k/\k<=Xr.length/\Below wi.heap.size wi wq) (λ_ s _=>Xr.length-(intOf s).toNat)
   case atStart=>exact⟨0,by simp[qd],rfl,aP _,by subst hwi;exact ai _ _⟩
   case round=>
    obtain⟨k,rfl,rfl,hk,hB⟩:=hrel;have HB2:Hid (Below wi.heap.size wi wr):=hB;have hcs:=xX.out wr hB;have hcr:=VA (Xr.take k);simp only[fq]at hcr;obtain⟨q,hq⟩:=af (gZ (C.take i)+qd (Xr.take k));have HQ:Hid (gZ (C.take i)+qd (Xr.take k)=q):=hq;have hqb:q<=2000000:=by omega
    rw[hq];have afL:=hB.size;clear hB hq;by_cases Qr:k<Xr.length
    ·obtain⟨b',o',c',rl,hv',e0,e1,e2,e3⟩:=hcs.2 k Qr
     cases hv';have hstep:=adq Qr;have EQ:=HU.out i k hlt (by rw[EP.out];exact Qr);rw[EP.out]at EQ;obtain⟨⟨sh,ru,en⟩,hce⟩:=af (Xr.getD k (0,[],false));rw[hce]at e0 e2 e3 hstep EQ;simp only at e0 e2 e3 EQ;obtain⟨ra,rc,hrl⟩:=e2.1;subst hrl;have k0:(0:Int)<=(k:Int):=aF _;have k1:(k:Int)<(Xr.length:Int):=by omega
     have hsy:=afJ (sh,ru,en);have say:=afK (w:=wr.alloc (.cells #[.int .i64 sh,.slice ra ru.length rc,.bool en] 117)) (sh:=sh) (ra:=ra) (rc:=rc) (en:=en) EQ;obtain⟨m,hmm⟩:=af (Qp (sh,ru,en));have hmm':ru.length+(if 0<=sh then 1 else 0)+(if en then 1 else 0)=m:=hmm;rw[hmm']at say;rw[hmm]at hsy;obtain⟨z,hz⟩:=af (AX (sh,ru,en));rw[hz]at hstep hsy;have mQ:Hid (qd (Xr.take (k+1))=qd (Xr.take k)+(if z then 0 else 1)):=hstep;have hd:decide ((1:Int)<(m:Int))= !z:=by rw[<-hsy,Bool.eq_iff_iff,bX,bX];omega
     have HA:Hid (Below wi.heap.size wi (wr.alloc (.cells #[.int .i64 sh,.slice ra ru.length rc,.bool en] 117))):=HB2.out.alloc afL _;clear hcs hstep hce e2 hz hsy hmm hmm';cases z with
     |true=>
      simp only[Bool.not_true]at hd;simp only[bQ,Nat.add_zero]at mQ
      go_wp2_with (go_at_call 53;refine say.mono ?_;rintro e w5 ⟨rfl,aD⟩
                   have gP:Hid (Below wi.heap.size wi w5):=HA.out.trans (aD.mono (by simp;omega))
                   clear aD)
      go_roundw
      case rel=>exact⟨k+1,by rw[mQ.out,<-HQ.out]<;>first|rfl|go_num,by go_num,by omega,gP.out⟩
      case measure=>simp[intOf];omega
     |false=>
      simp only[Bool.not_false]at hd;simp only[dO,bN]at mQ
      go_wp2_with (go_at_call 53;refine say.mono ?_;rintro e w5 ⟨rfl,aD⟩
                   have gP:Hid (Below wi.heap.size wi w5):=HA.out.trans (aD.mono (by simp;omega))
                   clear aD)
      go_roundw
      case rel=>exact⟨k+1,by rw[mQ.out,<-HQ.out]<;>first|rfl|go_num,by go_num,by omega,gP.out⟩
      case measure=>simp[intOf];omega
    ·have HE:Hid (gZ (C.take (i+1))=q):=by
      show gZ (C.take (i+1))=q;rw[Vz hlt,EP.out,<-HQ.out,pG (by omega:Xr.length<=k)]
     have Lu:Hid (Below (w.heap.size+1) WT wr):=xV.out.trans (HB2.out.mono hsz');clear hcs
     go_wp2_with fail
     go_roundw
     case rel=>exact⟨i+1,by rw[HE.out],by go_num,by omega,Lu.out⟩
     case measure=>simp[intOf];omega
  ·obtain rfl:i=C.length:=by omega
   have lF:Hid (Below w.heap.size w wr):=hBw;rw[gH];clear hB hBw
   go_wp2_with fail
   go_ret;exact⟨rfl,lF.out⟩
end Go.Proofs.YthbifaoaiggooaaGreatDoor
namespace Go.Proofs.YthbifaoaiggooaaGreatDoor
def qj(A:Int->List Int->List Int->Prop):List Sy->List Int->List Int->Prop
 | [],d,Z=>d=[]/\Z=[]
 |(true,v)::l,d,Z=> ∃Z',Z=v::Z'/\qj A l d Z'
 |(false,n)::l,d,Z=> ∃d1 d2 Z1 Z2,d=d1++d2/\Z=Z1++Z2/\A n d1 Z1/\qj A l d2 Z2
def zJ(R:List Ru):Nat->Int->List Int->List Int->Prop
 |0,_,_,_=>False
 |k+1,n,d,Z=> ∃q:Nat,q<R.length/\(R.getD q (0,[])).1=n/\∃d',d=(q:Int)::d'/\qj (zJ R k) (R.getD q (0,[])).2 d' Z
def zK(R:List Ru)(n:Int)(d Z:List Int):Prop:=∃k,zJ R k n d Z
theorem qj.mono{A B:Int->List Int->List Int->Prop}(h:∀n d Z,A n d Z->B n d Z):∀{l:List Sy} {d Z:List Int},qj A l d Z->qj B l d Z:=by
 intro l
 induction l with
 |nil=>intro d Z hZ;exact hZ
 |cons s l ih=>
  intro d Z hZ;obtain⟨b,n⟩:=s;cases b with
  |true=>obtain⟨Z',h1,h2⟩:=hZ;exact⟨Z',h1,ih h2⟩
  |false=>obtain⟨d1,d2,Z1,Z2,h1,h2,h3,h4⟩:=hZ;exact⟨d1,d2,Z1,Z2,h1,h2,h _ _ _ h3,ih h4⟩
theorem afM{R:List Ru}:∀k n d Z,zJ R k n d Z->zJ R (k+1) n d Z:=by
 intro k
 induction k with
 |zero=>intro n d Z h;exact h.elim
 |succ k ih=>
  rintro n d Z ⟨q,h1,h2,d',h3,h4⟩;exact⟨q,h1,h2,d',h3,h4.mono ih⟩
theorem Ye{R:List Ru}{k m:Nat}(h:k<=m):∀n d Z,zJ R k n d Z->zJ R m n d Z:=by
 induction h with
 |refl=>intro n d Z h;exact h
 |step _ ih=>intro n d Z h;exact afM _ _ _ _ (ih n d Z h)
theorem afN{R:List Ru}:∀{l:List Sy} {d Z:List Int},qj (zK R) l d Z->∃k,qj (zJ R k) l d Z:=by
 intro l
 induction l with
 |nil=>intro d Z h;exact⟨0,h⟩
 |cons s l ih=>
  intro d Z h;obtain⟨b,n⟩:=s;cases b with
  |true=>
   obtain⟨Z',h1,h2⟩:=h;obtain⟨k,hk⟩:=ih h2;exact⟨k,Z',h1,hk⟩
  |false=>
   obtain⟨d1,d2,Z1,Z2,h1,h2,⟨m,h3⟩,h4⟩:=h;obtain⟨k,hk⟩:=ih h4;exact⟨max m k,d1,d2,Z1,Z2,h1,h2,Ye (Nat.le_max_left _ _) _ _ _ h3,hk.mono (Ye (Nat.le_max_right _ _))⟩
theorem afO{R:List Ru}{q:Nat}(hq:q<R.length){d Z:List Int}(h:qj (zK R) (R.getD q (0,[])).2 d Z):zK R (R.getD q (0,[])).1 ((q:Int)::d) Z:=by
 obtain⟨k,hk⟩:=afN h;exact⟨k+1,q,hq,rfl,d,rfl,hk⟩
theorem afP{A:Int->List Int->List Int->Prop}:∀{l m:List Sy} {d d' Z Z':List Int},qj A l d Z->qj A m d' Z'->qj A (l++m) (d++d') (Z++Z'):=by
 intro l
 induction l with
 |nil=>rintro m d d' Z Z' ⟨rfl,rfl⟩ h';exact h'
 |cons s l ih=>
  intro m d d' Z Z' h h';obtain⟨b,n⟩:=s;cases b with
  |true=>obtain⟨Y,rfl,h2⟩:=h;exact⟨Y++Z',rfl,ih h2 h'⟩
  |false=>
   obtain⟨d1,d2,Z1,Z2,rfl,rfl,h3,h4⟩:=h;exact⟨d1,d2++d',Z1,Z2++Z',by rw[mG],by rw[mG],h3,ih h4 h'⟩
section
variable{R:List Ru}{D:List Int}
end
section
variable{T N:Nat}{R:List Ru}(hf:dD T N R)
include hf
end
def vZ(T N:Nat)(s:Sy):Prop:=0<=s.2/\s.2<if s.1 then (T:Int) else (N:Int)
theorem afQ{T N:Nat}{s s':Sy}(h:vZ T N s)(h':vZ T N s')(e:gy T s=gy T s'):s=s':=by
 obtain⟨b,v⟩:=s;obtain⟨b',v'⟩:=s';cases b<;>cases b'<;>simp_all [vZ,gy]<;>omega
theorem Yf{T N:Nat}{s:Sy}(h:vZ T N s):0<=gy T s/\gy T s<(T:Int)+N:=by
 obtain⟨b,v⟩:=s;cases b<;>simp_all [vZ,gy]<;>omega
theorem LZ{T N:Nat}{R:List Ru}(hf:dD T N R){r:Nat}(hr:r<=R.length):∀s∈aR R r,vZ T N s:=λs hs=>by
 unfold aR at hs;split at hs
 ·simp only[gG]at hs
  subst hs;have:=hf.some;simp[vZ];omega
 ·have hm:R.getD r (0,[])∈R:=by simp[List.getD,show r<R.length by omega]
  obtain⟨b,v⟩:=s;cases b with
  |true=>have:=hf.term _ hm _ hs rfl;simpa [vZ] using this
  |false=>have:=hf.name _ hm _ hs rfl;simpa [vZ] using this
theorem Qs{R:List Ru}{r:Nat}(h:r<R.length):aR R r=(R.getD r (0,[])).2:=by
 unfold aR;rw[aj (by omega)]
structure qL(T N:Nat)(R:List Ru)(NL:List (List Int))(Ls:List aV):Prop where
 fine:dD T N R
 pos:0<Ls.length
 zero:Ls.getD 0 cu=Cl R (λi=>i=(R.length,0))
 go:∀k,k<Ls.length->∀x,x<T+N->AQ T R Ls k x ((NL.getD k []).getD x 0)
 closed:∀k,k<Ls.length->AR R (Ls.getD k cu)
theorem Qt{T N:Nat}{R:List Ru}{K:Nat}(hf:dD T N R)(h:Whole T N R K)(hK:0<K):qL T N R (ax T N R K).1 (ax T N R K).2:=by
 have hl:(ax T N R K).2.length=K:=h;refine⟨hf,by omega,?_,λk hk x hx=>(OW (GV h) k (by omega) x hx).2,λk hk=>Vr (T:=T) (N:=N) K _ ?_⟩
 ·obtain⟨E,hE⟩:=OV (T:=T) (N:=N) (R:=R) 0 K (aP _)
  rw[hE];rfl
 ·simp[List.getD,hk]
section
variable{T N:Nat}{R:List Ru}{NL:List (List Int)}{Ls:List aV}
def Qu(T:Nat)(NL:List (List Int))(k:Nat)(s:Sy)(n:Nat):Prop:=(NL.getD k []).getD (gy T s).toNat 0=(n:Int)
theorem qL.goes(h:qL T N R NL Ls){k:Nat}(hk:k<Ls.length){i:It}(hi:Ls.getD k cu i)(hr:i.1<=R.length){s:Sy}(hs:(aR R i.1)[i.2]?=some s):
 ∃n,Qu T NL k s n/\n<Ls.length/\Ls.getD n cu=rE T R (Ls.getD k cu) (gy T s).toNat/\Ls.getD n cu (i.1,i.2+1):=by
 have hok:=Yf (LZ h.fine hr s (ou hs));have hx:(((gy T s).toNat:Nat):Int)=gy T s:=by omega
 obtain⟨n,h1,h2,h3⟩:=(h.go k hk (gy T s).toNat (by omega)).some ⟨i,hi,s,hs,hx.symm⟩;exact⟨n,h1,h2,h3,by rw[h3];exact Vt hi hs hx.symm⟩
theorem L6{S:aV}(h:∀i,S i->i.1<=R.length):∀i,Cl R S i->i.1<=R.length:=by
 intro i hi
 induction hi with
 |base h1=>exact h _ h1
 |step _ _ h2 _ _=>exact iQ h2
theorem Yg{S:aV}{r d:Nat}(h:Cl R S (r,d+1)):S (r,d+1):=by
 cases h with
 |base h=>exact h
theorem Yh{S:aV}{r:Nat}(h:Cl R S (r,0)):S (r,0)\/(r<R.length/\∃i,Cl R S i/\(aR R i.1)[i.2]?=some (false,(R.getD r (0,[])).1)):=by
 cases h with
 |base h=>exact .inl h
 |step h1 h2 h3 h4=>exact .inr ⟨h3,_,h1,by rw[h4];exact h2⟩
structure PC where
 S:List Nat
 F:List (List Int)
 pos:Nat
 many:Nat
inductive PR where
 |go (c:PC)
 |fin (d:List Int)
 |no (n:Nat)
def mD(T:Nat)(tok:List Int)(p:Nat):Nat:=if p<tok.length then (tok.getD p 0).toNat else T
def Bu(c:PC):Nat:=c.S.getD (c.S.length-1) 0
def IQ(R:List Ru)(go:Nat->Nat->Int)(c:PC)(q:Int):PC:=
 let r:=R.getD q.toNat (0,[])
 let keep:=c.F.length-r.2.length
 ⟨c.S.take (keep+1)++[(go (c.S.getD keep 0) r.1.toNat).toNat],c.F.take keep++[q::(c.F.drop keep).flatten],c.pos,c.many+1⟩
def tV(R:List Ru)(go:Nat->Nat->Int)(c:PC)(x:Ce):PR:=
 if x.2.2 then .fin (c.F.getD 0 [])
 else if 0<=x.1 then .go ⟨c.S++[x.1.toNat],c.F++[[]],c.pos+1,c.many⟩
 else match x.2.1 with
  | []=> .no c.pos
  |q::_=> .go (IQ R go c q)
def mE(T:Nat)(R:List Ru)(ce:Nat->Nat->Ce)(go:Nat->Nat->Int)(tok:List Int)(c:PC):PR:=tV R go c (ce (Bu c) (mD T tok c.pos))
end
section
variable{T N:Nat}{R:List Ru}(hf:dD T N R)
include hf
end
abbrev kZ(T:Nat)(NL:List (List Int))(k n:Nat):Int:=(NL.getD k []).getD (T+n) 0
section
variable{T N:Nat}{R:List Ru}{NL:List (List Int)}{Ls:List aV}{tok:List Int}
theorem afR(rV:∀t∈tok,0<=t/\t<(T:Int))(p:Nat):mD T tok p<=T:=by
 unfold mD;split
 ·rename_i h
  have:=rV tok[p] (jO h);have e:tok.getD p 0=tok[p]:=by simp[List.getD,h]
  rw[e];omega
 ·omega
end
section
variable{T N:Nat}{R:List Ru}{NL:List (List Int)}{Ls:List aV}{tok:List Int}
def One(R:List Ru)(s:Sy)(f z:List Int):Prop:=(s.1=true/\f=[]/\z=[s.2])\/(s.1=false/\zK R s.2 f z)
inductive kQ(T N:Nat)(R:List Ru)(NL:List (List Int))(Ls:List aV):List Nat->List Sy->List (List Int)->List Int->Prop
 |nil:kQ T N R NL Ls [0] [] [] []
 |push {S:List Nat} {X:List Sy} {F:List (List Int)} {Z:List Int} {q g:Nat} {s:Sy} {f z:List Int} (h:kQ T N R NL Ls (q::S) X F Z) (hs:vZ T N s) (hg:g<Ls.length) (he:Ls.getD g cu=rE T R (Ls.getD q cu) (gy T s).toNat) (h1:One R s f z):kQ T N R NL Ls (g::q::S) (s::X) (f::F) (Z++z)
theorem kQ.lens{S:List Nat}{X:List Sy}{F:List (List Int)}{Z:List Int}(h:kQ T N R NL Ls S X F Z):S.length=F.length+1/\X.length=F.length:=by
 induction h with
 |nil=>exact⟨rfl,rfl⟩
 |push _ _ _ _ _ ih=>simp only[List.length_cons]at ih⊢;omega
theorem kQ.lt(lr:qL T N R NL Ls){q:Nat}{S:List Nat}{X:List Sy}{F:List (List Int)}{Z:List Int}(h:kQ T N R NL Ls (q::S) X F Z):q<Ls.length:=by
 cases h with
 |nil=>exact lr.pos
 |push _ _ hg _ _=>exact hg
theorem kQ.rule(lr:qL T N R NL Ls):∀{S':List Nat} {X:List Sy} {F:List (List Int)} {Z:List Int},kQ T N R NL Ls S' X F Z->∀q S,S'=q::S->∀i,Ls.getD q cu i->i.1<=R.length:=by
 intro S' X F Z h
 induction h with
 |nil=>
  intro q S e i hi;injection e with e1;subst e1;rw[lr.zero]at hi;exact L6 (λi h=>by rw[h];exact ah _) i hi
 |push _ _ _ he _ ih=>
  intro q S e i hi;injection e with e1;subst e1;rw[he]at hi;refine L6 (λi h=> ?_) i hi;obtain⟨j,h1,_,rfl⟩:=h;exact ih _ _ rfl j h1
theorem afS{l:List Sy}{s:Sy}{d f Z z:List Int}(h:qj (zK R) l d Z)(h1:One R s f z):qj (zK R) (l++[s]) (d++f) (Z++z):=by
 refine afP h ?_;obtain⟨b,v⟩:=s;rcases h1 with⟨hb,rfl,rfl⟩|⟨hb,h2⟩
 ·simp only at hb
  subst hb;exact⟨[],rfl,rfl,rfl⟩
 ·simp only at hb
  subst hb;exact⟨f,[],z,[],by simp,by simp,h2,rfl,rfl⟩
theorem kQ.back(lr:qL T N R NL Ls){r:Nat}:∀(n:Nat) {e:Nat} {S:List Nat} {X:List Sy} {F:List (List Int)} {Z:List Int},kQ T N R NL Ls (e::S) X F Z->Ls.getD e cu (r,n)->
 ∃(q:Nat) (S2:List Nat) (X2:List Sy) (F1 F2:List (List Int)) (Z1 Z2:List Int),(e::S).drop n=q::S2/\F=F1++F2/\F1.length=n/\Z=Z2++Z1/\n<=(aR R r).length/\qj (zK R) ((aR R r).take n) F1.reverse.flatten Z1/\kQ T N R NL Ls (q::S2) X2 F2 Z2/\Ls.getD q cu (r,0):=by
 intro n
 induction n with
 |zero=>
  intro e S X F Z h hi;exact⟨e,S,X,[],F,[],Z,rfl,rfl,rfl,by simp,aP _,⟨rfl,rfl⟩,h,hi⟩
 |succ n ih=>
  intro e S X F Z h hi;cases h with
  |nil=>
   rw[lr.zero]at hi;have:=Yg hi;simp at this
  |push h hs hg he h1=>
   rename_i S X F Z q s f z;rw[he]at hi;obtain⟨i,hq,⟨s',hs',hx⟩,hie⟩:=Yg hi
   have hi':i=(r,n):=by
    obtain⟨a,b⟩:=i;simp only[qx]at hie;rw[hie.1,Nat.add_right_cancel hie.2]
   subst hi';have hrr:=kQ.rule lr h _ _ rfl _ hq;have hok:=LZ lr.fine hrr s' (ou hs');have h0:=Yf hs;have hse:s'=s:=afQ hok hs (by rw[hx];omega);subst hse
   have hlt:n<(aR R r).length:=by
    rcases Ac n (aR R r).length with h|h
    ·exact h
    ·rw[nJ h]at hs';cases hs'
   obtain⟨q2,S2,X2,F1,F2,Z1,Z2,a1,a2,a3,a4,_,a5,a6,a7⟩:=ih h hq;refine⟨q2,S2,X2,f::F1,F2,Z1++z,Z2,by simpa using a1,by rw[a2];rfl,by simp[a3],by rw[a4,mG],hlt,?_,a6,a7⟩
   have ht:(aR R r).take (n+1)=(aR R r).take n++[s']:=by
    rw[fT hlt];rw[pq hlt]at hs';rw[yL hs']
   rw[ht];have hfl:(f::F1).reverse.flatten=F1.reverse.flatten++f:=by simp
   rw[hfl];exact afS a5 h1
theorem kQ.awaits(lr:qL T N R NL Ls){q:Nat}{S:List Nat}{X:List Sy}{F:List (List Int)}{Z:List Int}(h:kQ T N R NL Ls (q::S) X F Z){r:Nat}(hi:Ls.getD q cu (r,0)):
 (r=R.length/\S=[]/\X=[]/\F=[]/\Z=[]/\q=0)\/(r<R.length/\∃i,Ls.getD q cu i/\i.1<=R.length/\(aR R i.1)[i.2]?=some (false,(R.getD r (0,[])).1)):=by
 cases h with
 |nil=>
  have hz:=lr.zero;rw[hz]at hi;rcases Yh hi with h1|⟨h1,i,h2,h3⟩
  ·simp only[qx]at h1
   exact .inl ⟨h1.1,rfl,rfl,rfl,rfl,rfl⟩
  ·refine .inr ⟨h1,i,by rw[hz];exact h2,L6 (λi h=>by rw[h];exact ah _) i h2,h3⟩
 |push h hs hg he h1=>
  rw[he]at hi;rcases Yh hi with⟨j,_,_,h2⟩|⟨h2,i,h3,h4⟩
  ·simp at h2
  ·refine .inr ⟨h2,i,by rw[he];exact h3,L6 (λi h'=> ?_) i h3,h4⟩
   obtain⟨j,h5,_,rfl⟩:=h';exact kQ.rule lr h _ _ rfl j h5
theorem afT{uQ:List Sy->Nat->Bool}{nR:List Sy->Bool}{k t:Nat}{i:It}(h:uP T R uQ nR NL Ls k i t)(hi:i.1=R.length):t=T:=by
 induction h with
 |start=>rfl
 |on _ _ _ ih=>exact ih hi
 |begins _ _ _ h2 _ _ _=>simp only at hi;omega
 |nothing _ _ h2 _ _ _=>simp only at hi;omega
structure o6(T N:Nat)(R:List Ru)(NL:List (List Int))(Ls:List aV)(tok:List Int)(c:PC):Prop where
 ex:∃S X F,c.S=S.reverse/\c.F=F.reverse/\kQ T N R NL Ls S X F (tok.take c.pos)
 pos:c.pos<=tok.length
theorem Qv:o6 T N R NL Ls tok ⟨[0],[],0,0⟩:=⟨⟨[0],[],[],rfl,rfl,by simpa using kQ.nil⟩,aP _⟩
theorem o6.top{c:PC}{S:List Nat}{q:Nat}(h:c.S=(q::S).reverse):Bu c=q:=by
 unfold Bu;rw[h];simp[List.getD]
open Classical in
theorem Qw{k t:Nat}{q:Int}(h:q∈(cellP T N R NL Ls k t).2.1):∃m:Nat,q=m/\m<R.length/\AY T N R NL Ls k t m:=by
 unfold cellP at h;simp only[jP,sD,jC,bX]at h;obtain⟨m,⟨h1,h2⟩,rfl⟩:=h;exact⟨m,rfl,h1,h2⟩
theorem o6.fin(lr:qL T N R NL Ls)(rV:∀t∈tok,0<=t/\t<(T:Int)){c:PC}(h:o6 T N R NL Ls tok c){d:List Int}(hs:mE T R (cellP T N R NL Ls) (kZ T NL) tok c= .fin d):zK R 0 d tok/\c.F=[d]:=by
 obtain⟨⟨S,X,F,h1,h2,h3⟩,hp⟩:=h;cases S with
 |nil=>cases h3
 |cons e S=>
 unfold mE at hs;rw[o6.top h1]at hs;unfold tV at hs;split at hs
 ·rename_i hend
  have hdn:AY T N R NL Ls e (mD T tok c.pos) R.length:=by
   unfold cellP at hend;simpa using hend
  have hr:aR R R.length=[(false,0)]:=by simp[aR]
  have hd1:=hdn.1;rw[hr]at hd1;obtain⟨q,S2,X2,F1,F2,Z1,Z2,a1,a2,a3,a4,_,a5,a6,a7⟩:=h3.back lr 1 hd1;rcases a6.awaits lr a7 with⟨_,_,_,rfl,rfl,_⟩|⟨hlt,_⟩
  ·simp only[qp,List.nil_append]at a2 a4
   subst a2;obtain⟨f,rfl⟩:=List.length_eq_one_iff.1 a3;rw[hr]at a5;simp only[List.take_succ_cons,List.take_zero,List.reverse_singleton,List.flatten_cons,List.flatten_nil,qp]at a5;obtain⟨d1,d2,Y1,Y2,b1,b2,b3,rfl,rfl⟩:=a5;simp only[qp]at b1 b2;subst b1;subst b2;have ht:=afT hdn.2 rfl
   have hpl:tok.length<=c.pos:=by
    rcases Ac c.pos tok.length with h|h
    ·exfalso
     unfold mD at ht;rw[au h]at ht;have e1:tok.getD c.pos 0=tok[c.pos]:=by simp[List.getD,h]
     have:=rV tok[c.pos] (jO h);rw[e1]at ht;omega
    ·exact h
   rw[pG hpl]at a4;rw[h2]at hs;simp only[List.reverse_singleton]at hs;injection hs with hs;simp only[List.getD,List.getElem?_cons_zero,Option.getD_some]at hs;rw[<-hs,a4,h2];exact⟨b3,rfl⟩
  ·exact absurd hlt (Dx _)
 ·split at hs
  ·cases hs
  ·split at hs<;>cases hs
theorem o6.go(lr:qL T N R NL Ls)(rV:∀t∈tok,0<=t/\t<(T:Int)){c c':PC}(h:o6 T N R NL Ls tok c)(hs:mE T R (cellP T N R NL Ls) (kZ T NL) tok c= .go c'):o6 T N R NL Ls tok c':=by
 obtain⟨⟨S,X,F,h1,h2,h3⟩,hp⟩:=h;cases S with
 |nil=>cases h3
 |cons e S=>
 have he:=h3.lt lr;unfold mE at hs;rw[o6.top h1]at hs;unfold tV at hs;split at hs
 ·cases hs
 ·split at hs
  ·rename_i hsh
   injection hs with hs
   have tq:mD T tok c.pos<T:=by
    rcases Ac (mD T tok c.pos) T with h|h
    ·exact h
    ·exfalso
     unfold cellP at hsh;simp only[show ¬mD T tok c.pos<T by omega,bN]at hsh;omega
   have hpl:c.pos<tok.length:=by
    rcases Ac c.pos tok.length with h|h
    ·exact h
    ·exfalso
     unfold mD at tq;rw[aj (by omega)]at tq;omega
   have hc1:(cellP T N R NL Ls e (mD T tok c.pos)).1=(NL.getD e []).getD (mD T tok c.pos) 0:=by unfold cellP;simp only[tq,bQ]
   rw[hc1]at hs hsh;have hgo:=lr.go e he (mD T tok c.pos) (by omega)
   have hex:∃i,Ls.getD e cu i/\kJ T R i (mD T tok c.pos):=Dr λhn=>by
    have:=hgo.none hn;omega
   obtain⟨n,g1,g2,g3⟩:=hgo.some hex;obtain⟨i,hi,s,hs1,hs2⟩:=hex;have hok:=LZ lr.fine (kQ.rule lr h3 _ _ rfl i hi) s (ou hs1)
   have hte:((mD T tok c.pos:Nat):Int)=tok.getD c.pos 0:=by
    unfold mD;rw[au hpl];have e1:tok.getD c.pos 0=tok[c.pos]:=by simp[List.getD,hpl]
    have:=rV tok[c.pos] (jO hpl);rw[e1];omega
   have hst:s=(true,tok.getD c.pos 0):=by
    obtain⟨b,v⟩:=s;cases b with
    |true=>simp only[gy,bQ]at hs2;rw[hs2,hte]
    |false=>
     simp only[gy,vZ,dO,bN]at hs2 hok;omega
   subst hst;have lV:(gy T (true,tok.getD c.pos 0)).toNat=mD T tok c.pos:=by rw[hs2];simp
   rw[g1]at hs;subst hs;refine⟨⟨n::e::S,(true,tok.getD c.pos 0)::X,[]::F,by simp[h1],by simp[h2],?_⟩,hpl⟩;have:=kQ.push h3 hok g2 (by rw[lV];exact g3) (f:=[]) (z:=[tok.getD c.pos 0]) (.inl ⟨rfl,rfl,rfl⟩)
   have e2:tok.take (c.pos+1)=tok.take c.pos++[tok.getD c.pos 0]:=by
    rw[fT hpl];simp[List.getD,hpl]
   simp only;rw[e2];exact this
  ·split at hs
   ·cases hs
   ·rename_i q0 rest hrl
    injection hs with hs;obtain⟨m,rfl,hm,hdn⟩:=Qw (q:=q0) (by rw[hrl];simp);have hd1:=hdn.1;obtain⟨q,S2,X2,F1,F2,Z1,Z2,a1,a2,a3,a4,_,a5,a6,a7⟩:=h3.back lr _ hd1;rw[gH,Qs hm]at a5;have afU:=afO hm a5;rcases a6.awaits lr a7 with⟨h0,_⟩|⟨_,i,hi,hir,hin⟩
    ·omega
    ·have hq:=a6.lt lr
     obtain⟨g,g1,g2,g3,_⟩:=lr.goes hq hi hir hin;have hok:=LZ lr.fine hir _ (ou hin);have Lh:=h3.lens;have hfl:F.length=F1.length+F2.length:=by rw[a2];simp
     have afV:(R.getD m (0,[])).2.length=F1.length:=by rw[a3,Qs hm]
     have hSd:e::S=(e::S).take F1.length++(q::S2):=by
      rw[a3,<-a1,wT]
     have hl2:=a6.lens;unfold IQ at hs;simp only[Int.toNat_natCast]at hs;have hk:c.F.length-(R.getD m (0,[])).2.length=F2.length:=by rw[h2,wQ,afV,hfl];omega
     rw[hk]at hs
     have hrev:c.S=(q::S2).reverse++((e::S).take F1.length).reverse:=by
      rw[h1];conv=>lhs;rw[hSd]
      rw[List.reverse_append]
     have Yi:c.F=F2.reverse++F1.reverse:=by rw[h2,a2,List.reverse_append]
     have hlq:(q::S2).reverse.length=F2.length+1:=by rw[wQ];exact hl2.1
     have t1:c.S.take (F2.length+1)=(q::S2).reverse:=by rw[hrev,<-hlq,BL]
     have t2:c.S.getD F2.length 0=q:=by
      rw[hrev]
      have Qx:S2.reverse.length=F2.length:=by
       have:=hl2.1;simp only[List.length_cons,wQ]at this⊢;omega
      simp only[List.reverse_cons,mG];rw[<-Qx];simp[List.getD]
     have t3:(kZ T NL q (R.getD m (0,[])).1.toNat).toNat=g:=by
      unfold kZ;have hg:=g1;unfold Qu at hg;have h0:0<=(R.getD m (0,[])).1:=(lr.fine.left (R.getD m (0,[])) (by simp[List.getD,hm])).1;have e1:(gy T (false,(R.getD m (0,[])).1)).toNat=T+(R.getD m (0,[])).1.toNat:=by simp only[gy,dO,bN];omega
      rw[e1]at hg;rw[hg];simp
     have t4:c.F.take F2.length=F2.reverse:=by rw[Yi,<-wQ,BL]
     have t5:c.F.drop F2.length=F1.reverse:=by rw[Yi,<-wQ,List.drop_left]
     rw[t1,t2,t3,t4,t5]at hs;subst hs;refine⟨⟨g::q::S2,(false,(R.getD m (0,[])).1)::X2,((m:Int)::F1.reverse.flatten)::F2,by simp,by simp,?_⟩,hp⟩;simp only;rw[a4];exact kQ.push a6 hok g2 g3 (.inr ⟨rfl,afU⟩)
end
inductive Qy where
 |done (d:List Int)
 |none (n:Nat)
 |size
def uT(T:Nat)(R:List Ru)(ce:Nat->Nat->Ce)(go:Nat->Nat->Int)(tok:List Int):Nat->PC->Qy
 |0,_=> .size
 |f+1,c=>if c.many<=400 then (match mE T R ce go tok c with| .go c'=>uT T R ce go tok f c'| .fin d=> .done d| .no n=> .none n) else .size
def Qz:PC:=⟨[0],[],0,0⟩
noncomputable def tX(T N:Nat)(R:List Ru)(NL:List (List Int))(Ls:List aV)(tok:List Int):Qy:=uT T R (cellP T N R NL Ls) (kZ T NL) tok (tok.length+402) Qz
section
variable{T N:Nat}{R:List Ru}{NL:List (List Int)}{Ls:List aV}{tok:List Int}{ce:Nat->Nat->Ce}{go:Nat->Nat->Int}
theorem afW{c c':PC}(h:mE T R ce go tok c= .go c'):c'.pos+c'.many=c.pos+c.many+1/\c.many<=c'.many/\c.pos<=c'.pos:=by
 unfold mE tV at h;split at h
 ·cases h
 ·split at h
  ·injection h with h;subst h;simp only;omega
  ·split at h
   ·cases h
   ·injection h with h;subst h;unfold IQ;simp only;omega
theorem Yj{c c':PC}(h:mE T R ce go tok c= .go c')(hm:c.many<=400)(f:Nat):uT T R ce go tok (f+1) c=uT T R ce go tok f c':=by
 rw[uT,au hm];simp only[h]
def Sum(c:PC):Prop:=(c.F.map List.length).sum=c.many
theorem afX(L:List (List Int)):L.flatten.length=(L.map List.length).sum:=by
 induction L with
 |nil=>rfl
 |cons a L ih=>simp
theorem Yk{c c':PC}(h:mE T R ce go tok c= .go c')(hs:Sum c):Sum c':=by
 unfold Sum at hs⊢;unfold mE tV at h;split at h
 ·cases h
 ·split at h
  ·injection h with h;subst h;simpa using hs
  ·split at h
   ·cases h
   ·rename_i q _ _
    injection h with h;subst h;unfold IQ;simp only[fD,jB,oq,Ab,List.sum_cons,List.sum_nil,List.length_cons,afX]
    have e:(c.F.map List.length).sum=((c.F.take (c.F.length-(R.getD q.toNat (0,[])).2.length)).map List.length).sum+((c.F.drop (c.F.length-(R.getD q.toNat (0,[])).2.length)).map List.length).sum:=by
     rw[<-Ab,<-fD,wT]
    omega
theorem Yl(lr:qL T N R NL Ls)(rV:∀t∈tok,0<=t/\t<(T:Int)):∀(f:Nat) (c:PC),o6 T N R NL Ls tok c->Sum c->
 (∀d,uT T R (cellP T N R NL Ls) (kZ T NL) tok f c= .done d->zK R 0 d tok/\d.length<=400)/\∀n,uT T R (cellP T N R NL Ls) (kZ T NL) tok f c= .none n->n<=tok.length:=by
 intro f
 induction f with
 |zero=>intro c _ _;exact⟨λd h=>(by cases h),λn h=>(by cases h)⟩
 |succ f ih=>
  intro c hP hS;rw[uT];by_cases hm:c.many<=400
  ·rw[au hm]
   cases hst:mE T R (cellP T N R NL Ls) (kZ T NL) tok c with
   |go c'=>exact ih c' (hP.go lr rV hst) (Yk hst hS)
   |fin d=>
    obtain⟨h1,h2⟩:=hP.fin lr rV hst;refine⟨λd' h=> ?_,λn h=>by cases h⟩;injection h with h;subst h;unfold Sum at hS;rw[h2]at hS;simp only[jB,oq,List.sum_cons,List.sum_nil]at hS;exact⟨h1,by omega⟩
   |no n=>
    refine⟨λd' h=>(by cases h),λn' h=> ?_⟩;injection h with h;subst h;unfold mE tV at hst;split at hst
    ·cases hst
    ·split at hst
     ·cases hst
     ·split at hst
      ·injection hst with hst;rw[<-hst];exact hP.pos
      ·cases hst
  ·rw[aj hm]
   exact⟨λd h=>(by cases h),λn h=>(by cases h)⟩
end
section
variable{T N:Nat}{R:List Ru}{NL:List (List Int)}{Ls:List aV}{tok:List Int}
theorem kQ.afY(lr:qL T N R NL Ls){S:List Nat}{X:List Sy}{F:List (List Int)}{Z:List Int}(h:kQ T N R NL Ls S X F Z):∀s∈S,s<Ls.length:=by
 induction h with
 |nil=>intro s hs;simp only[gG]at hs;rw[hs];exact lr.pos
 |push _ _ hg _ _ ih=>
  intro s hs;rcases iW.1 hs with rfl|hs
  ·exact hg
  ·exact ih s hs
theorem o6.shape(lr:qL T N R NL Ls){c:PC}(h:o6 T N R NL Ls tok c):c.S.length=c.F.length+1/\Bu c<Ls.length/\∀s∈c.S,s<Ls.length:=by
 obtain⟨⟨S,X,F,h1,h2,h3⟩,_⟩:=h;have hl:=h3.lens;have ha:=h3.afY lr;cases S with
 |nil=>cases h3
 |cons e S=>
  refine⟨by rw[h1,h2,wQ,wQ];exact hl.1,by rw[o6.top h1];exact ha e (by simp),λs hs=>ha s ?_⟩;rw[h1]at hs;exact List.mem_reverse.1 hs
theorem o6.red(lr:qL T N R NL Ls){c:PC}(h:o6 T N R NL Ls tok c){t m:Nat}(hm:(m:Int)∈(cellP T N R NL Ls (Bu c) t).2.1):
 m<R.length/\(R.getD m (0,[])).2.length<=c.F.length/\c.S.getD (c.F.length-(R.getD m (0,[])).2.length) 0<Ls.length/\∃g:Nat,kZ T NL (c.S.getD (c.F.length-(R.getD m (0,[])).2.length) 0) (R.getD m (0,[])).1.toNat=(g:Int):=by
 obtain⟨⟨S,X,F,h1,h2,h3⟩,_⟩:=h;cases S with
 |nil=>cases h3
 |cons e S=>
 rw[o6.top h1]at hm;obtain⟨m',hme,ER,hdn⟩:=Qw hm;have:m=m':=by omega
 subst this;obtain⟨q,S2,X2,F1,F2,Z1,Z2,a1,a2,a3,a4,_,a5,a6,a7⟩:=h3.back lr _ hdn.1;have hfl:F.length=F1.length+F2.length:=by rw[a2];simp
 have hrl:(R.getD m (0,[])).2.length=F1.length:=by rw[a3,Qs ER]
 have hk:c.F.length-(R.getD m (0,[])).2.length=F2.length:=by rw[h2,wQ,hrl,hfl];omega
 have hl2:=a6.lens;have hSd:e::S=(e::S).take F1.length++(q::S2):=by rw[a3,<-a1,wT]
 have hrev:c.S=(q::S2).reverse++((e::S).take F1.length).reverse:=by
  rw[h1];conv=>lhs;rw[hSd]
  rw[List.reverse_append]
 have t2:c.S.getD F2.length 0=q:=by
  rw[hrev]
  have Qx:S2.reverse.length=F2.length:=by
   have:=hl2.1;simp only[List.length_cons,wQ]at this⊢;omega
  simp only[List.reverse_cons,mG];rw[<-Qx];simp[List.getD]
 rcases a6.awaits lr a7 with⟨h0,_⟩|⟨_,i,hi,hir,hin⟩
 ·omega
 ·have hq:=a6.lt lr
  obtain⟨g,g1,g2,g3,_⟩:=lr.goes hq hi hir hin;refine⟨ER,by rw[h2,wQ,hrl,hfl];omega,by rw[hk,t2];exact hq,g,?_⟩;rw[hk,t2];unfold kZ;have hg:=g1;unfold Qu at hg;have h0:0<=(R.getD m (0,[])).1:=(lr.fine.left (R.getD m (0,[])) (by simp[List.getD,ER])).1;have e1:(gy T (false,(R.getD m (0,[])).1)).toNat=T+(R.getD m (0,[])).1.toNat:=by simp only[gy,dO,bN];omega
  rw[e1]at hg;exact hg
end
section
variable{T N:Nat}{R:List Ru}{K:Nat}
theorem zL{k:Nat}(hk:k<K):(dF T N R K).getD k []=rowP T N R (ax T N R K).1 (ax T N R K).2 k:=by
 unfold dF;simp[List.getD,hk]
theorem uU:(dF T N R K).length=K:=by simp[dF]
theorem IU{NL:List (List Int)}{Ls:List aV}{k:Nat}:(rowP T N R NL Ls k).length=T+1:=by simp[rowP]
theorem QA{NL:List (List Int)}{Ls:List aV}{k t:Nat}(ht:t<=T):(rowP T N R NL Ls k).getD t (0,[],false)=cellP T N R NL Ls k t:=by
 unfold rowP;simp[List.getD,show t<T+1 by omega]
theorem Ym{k:Nat}(hk:k<K):(jo T N R K).getD k []=((ax T N R K).1.getD k []).drop T:=by
 unfold jo;simp[List.getD,hk]
theorem Yn:(jo T N R K).length=K:=by simp[jo]
theorem afZ{k n:Nat}(hk:k<K):((jo T N R K).getD k []).getD n 0=kZ T (ax T N R K).1 k n:=by
 rw[Ym hk];simp[kZ,List.getD,List.getElem?_drop]
theorem af0(h:gZ (dF T N R K)=0):∀k,k<K->∀t,t<=T->AX (cellP T N R (ax T N R K).1 (ax T N R K).2 k t)=true:=by
 intro k hk t ht;unfold gZ at h
 have h1:qd ((dF T N R K).getD k [])=0:=by
  have hm:qd ((dF T N R K).getD k [])∈(dF T N R K).map qd:=jP.2 ⟨_,by simp[List.getD,uU,hk],rfl⟩;exact(List.sum_eq_zero_iff_forall_eq_nat.1 h) _ hm
 rw[zL hk]at h1;unfold qd at h1;rw[List.length_eq_zero_iff,List.filter_eq_nil_iff]at h1;have h2:=h1 (cellP T N R (ax T N R K).1 (ax T N R K).2 k t) (by unfold rowP;exact jP.2 ⟨t,by simp;omega,rfl⟩);simpa using h2
theorem ES{K':Nat}(h:Whole T N R K)(h':Whole T N R K'):K=K':=by
 rcases Nat.lt_trichotomy K K' with hlt|heq|hlt
 ·have:=GV h' K hlt
  unfold Whole at h;omega
 ·exact heq
 ·have:=GV h K' hlt
  unfold Whole at h';omega
theorem QB(h:Whole T N R K):0<K:=by
 obtain⟨E,hE⟩:=OV (T:=T) (N:=N) (R:=R) 0 K (aP _);unfold Whole at h;rw[hE]at h;have:(ax T N R 0).2.length=1:=rfl;rw[aS,this]at h;omega
end
end Go.Proofs.YthbifaoaiggooaaGreatDoor
