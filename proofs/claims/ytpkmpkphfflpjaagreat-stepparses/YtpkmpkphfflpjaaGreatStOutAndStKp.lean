import Derived.Test.YtpkmpkphfflpjaaGreatStOfPAndStSwap
import Derived.Test.YtpkmpkphfflpjaaGreatStOutSAndStOutE
import Derived.Test.YtpkmpkphfflpjaaGreatStOutIAndStOutL
import Derived.Test.YtpkmpkphfflpjaaGreatStOfSAndGrowPut
import Derived.Test.YtpkmpkphfflpjaaGreatTrIfAndStLeft
import Derived.Test.YtpkmpkphfflpjaaGreatTrPtAndTrLb
set_option maxHeartbeats 3200000
set_option maxRecDepth 100000
namespace Go.Proofs.YtpkmpkphfflpjaaGreat
open Go.RowKit
theorem Tn{IX:List Nat}{k:Nat}(hk:k<IX.length):(IX.map fun(n:Nat)=>(n:Int)).getD k 0=((IX.getD k 0:Nat):Int):=by simp[List.getD,hk]
section
variable{w:World}{T N:Nat}{ra:Option Addr}{rc:Nat}{R:List Ru}{s:Stp}{cv:Value}
theorem Tp{B:Nat}(hc:fI w B T N ra rc R s cv)(hr:aD w w.heap.size (.slice ra R.length rc) R)(hm:aZ T N R=true)(hs:aR N R s=true):
 ∃ty v fn,cv= .iface ty v/\(∀n w',(method (n+1) ty v "pollarding/step.outcome").run Tryz.prog w'= .ok (fn,v) w')/\(∀args w',(callFunc fn args).run Tryz.prog w'= .ok (.enter fn args) w')/\
  Calls Tryz.prog fn #[v] w fun e w'=> ∃lv RL,e= .returned (.agg #[.int .i64 T,.int .i64 (gm N s:Nat),lv])/\bA w' w.heap.size lv RL/\(RL.map fun x=>x.2)=aM N R s/\Below w.heap.size w w':=by
 obtain⟨hT,hN1,hN,hRl,h5⟩:=kM hm;have hl2:∀q,q<R.length->(R.getD q (0,[])).2.length<=1000:=fun q hq=>by have:=(h5 q hq).2.2.1;omega
 obtain⟨op,a,b,c⟩:=s;by_cases h1:op=1
 ·subst h1
  refine⟨_,_,132,hc.swap rfl,fun n w'=>by kernel_rfl,fun args w'=>by simp[callFunc,Tryz.func132,Tryz.f132 ],?_⟩;refine(abd hr (by omega) hl2).mono ?_;rintro e w' ⟨lv,RL,rfl,h1,h2,h3⟩;exact⟨lv,RL,rfl,h1,by rw[h2];exact abe,h3⟩
 by_cases h2:op=2
 ·subst h2
  have hst:(0<=a/\a<(R.length:Int)/\0<=b/\b<c/\c<=((R.getD a.toNat (0,[])).2.length:Int)):=by
   unfold aR at hs;simp only at hs;rw[if_neg (by decide),if_pos trivial]at hs;simp only[Bool.and_eq_true,decide_eq_true_eq]at hs;exact⟨hs.1.1.1.1,hs.1.1.1.2,hs.1.1.2,hs.1.2,hs.2⟩
  refine⟨_,_,140,hc.extract rfl,fun n w'=>by kernel_rfl,fun args w'=>by simp[callFunc,Tryz.func140,Tryz.f140 ],?_⟩;obtain⟨ka,rfl⟩:∃x:Nat,a=x:=⟨a.toNat,by omega⟩;obtain⟨bn,rfl⟩:∃x:Nat,b=x:=⟨b.toNat,by omega⟩;obtain⟨cn,rfl⟩:∃x:Nat,c=x:=⟨c.toNat,by omega⟩;simp only[Int.toNat_natCast]at hst;obtain⟨⟨L,l⟩,hx⟩:∃x,R.getD ka (0,[])=x:=⟨_,rfl⟩;rw[hx]at hst;simp only at hst;refine(abl (m:=l.length-cn) hr (by omega) hl2 (by omega) (by omega) hx (by omega) (by omega)).mono ?_;rintro e w' ⟨lv,RL,rfl,h1,h2,h3⟩;exact⟨lv,RL,rfl,h1,by rw[h2];exact abg hx,h3⟩
 by_cases h3:op=3
 ·subst h3
  have hst:(0<=a/\a<(R.length:Int)/\0<=b/\b<((R.getD a.toNat (0,[])).2.length:Int)/\c=0/\((R.getD a.toNat (0,[])).2.getD b.toNat (false,0)).1=false):=by
   unfold aR at hs;simp only at hs;rw[if_neg (by decide),if_neg (by decide),if_pos trivial]at hs;simp only[Bool.and_eq_true,decide_eq_true_eq,Bool.not_eq_true',decide_eq_false_iff_not]at hs;obtain⟨⟨⟨⟨⟨⟨h1,h2⟩,h3⟩,h4⟩,h5⟩,h6⟩,h7⟩:=hs;exact⟨h1,h2,h3,h4,h5,h6⟩
  obtain⟨ov,hcv,hLo⟩:=hc.inline rfl;have hL:=QE hLo;obtain⟨oa,oc,hov⟩:=hL.1;subst hov;clear hLo;refine⟨_,_,149,hcv,fun n w'=>by kernel_rfl,fun args w'=>by simp[callFunc,Tryz.func149,Tryz.f149 ],?_⟩;obtain⟨ka,rfl⟩:∃x:Nat,a=x:=⟨a.toNat,by omega⟩;obtain⟨bn,rfl⟩:∃x:Nat,b=x:=⟨b.toNat,by omega⟩;obtain⟨rfl⟩:c=0:=hst.2.2.2.2.1;simp only[Int.toNat_natCast]at hst;obtain⟨⟨L,l⟩,hx⟩:∃x,R.getD ka (0,[])=x:=⟨_,rfl⟩;rw[hx]at hst;simp only at hst;obtain⟨⟨t,X⟩,hX⟩:∃x,l.getD bn (false,0)=x:=⟨_,rfl⟩;rw[hX]at hst;obtain⟨rfl⟩:t=false:=hst.2.2.2.2.2
  have hix:Ey R ⟨3,ka,bn,0⟩=aV (fun k=>decide ((R.getD k (0,[])).1=X)) R.length:=by
   unfold Ey sW;simp only[Int.toNat_natCast,hx,hX]
  rw[hix]at hL⊢;refine(abn (m:=l.length-(bn+1)) hr (by omega) hl2 (by omega) hx (by omega) hL (fun k hk=> ?_) (by have:=yQ (fun k=>decide ((R.getD k (0,[])).1=X)) R.length;rw[List.length_map];omega)).mono ?_
  ·have hk':k<(aV (fun k=>decide ((R.getD k (0,[])).1=X)) R.length).length:=by simpa using hk
   have hlt:=QD hk';rw[Tn hk'];omega
  ·rintro e w' ⟨lv,RL,rfl,h1,h2,h3⟩
   exact⟨lv,RL,rfl,h1,by rw[h2];exact abk (by omega) hx hX,h3⟩
 by_cases h4:op=4
 ·subst h4
  have h0:0<R.length:=by
   unfold aR at hs;simp only at hs;rw[if_neg (by decide),if_neg (by decide),if_neg (by decide),if_pos trivial]at hs;simp only[Bool.and_eq_true,oQ,List.any_eq_true]at hs;obtain⟨_,⟨r,hr,_⟩,_⟩:=hs;exact List.length_pos_of_mem hr
  refine⟨_,_,157,hc.left rfl,fun n w'=>by kernel_rfl,fun args w'=>by simp[callFunc,Tryz.func157,Tryz.f157 ],?_⟩;refine(abr hr h0 (by omega) hl2 (by omega)).mono ?_;rintro e w' ⟨lv,RL,rfl,h1,h2,h3⟩;exact⟨lv,RL,rfl,h1,by rw[h2];exact abf,h3⟩
 by_cases h5:op=5
 ·subst h5
  obtain⟨ov,hcv,hLo⟩:=hc.Bn rfl;have hL:=QE hLo;obtain⟨oa,oc,hov⟩:=hL.1;subst hov;clear hLo;refine⟨_,_,161,hcv,fun n w'=>by kernel_rfl,fun args w'=>by simp[callFunc,Tryz.func161,Tryz.f161 ],?_⟩;refine(Ya hr hl2 hL (fun k hk=> ?_) (by have:=yQ (fun k=>fu N R (R.getD k (0,[]))) R.length;rw[List.length_map];omega)).mono ?_
  ·have hk':k<(aV (fun k=>fu N R (R.getD k (0,[]))) R.length).length:=by simpa using hk
   have hlt:=QD hk';rw[Tn hk'];omega
  ·rintro e w' ⟨lv,RL,rfl,h1,h2,h3⟩
   exact⟨lv,RL,rfl,h1,by rw[h2];exact abh,h3⟩
 ·exfalso
  unfold aR at hs;simp[h1,h2,h3,h4,h5]at hs
end
structure dw(w:World)(T N:Int)(ra:Option Addr)(rc:Nat)(R:List Ru)(s:Stp)(wq:World):Prop where
 g:wq.heap[w.heap.size]?=some (.cells #[.int .i64 T,.int .i64 N,.slice ra R.length rc] 24 (0,0))
 s:wq.heap[w.heap.size+1]?=some (.cells #[.int .i64 s.op,.int .i64 s.a,.int .i64 s.b,.int .i64 s.c] 26 (0,0))
 r:wq.heap[w.heap.size+2]?=some (.cells #[.int .i64 0,.int .i64 0,.slice none 0 0] 24 (0,0))
 rules:aD wq w.heap.size (.slice ra R.length rc) R
 below:Below w.heap.size w wq
section
variable{w wq w':World}{T N:Int}{ra:Option Addr}{rc:Nat}{R:List Ru}{s:Stp}
theorem dw.size(h:dw w T N ra rc R s wq):w.heap.size+3<=wq.heap.size:=by
 have:=(Array.getElem?_eq_some_iff.1 h.r).1;omega
theorem dw.next(h:dw w T N ra rc R s wq)(hb:Below wq.heap.size wq w'):dw w T N ra rc R s w':=by
 have hz:=h.size;exact⟨(hb.block _ (by omega)).trans h.g,(hb.block _ (by omega)).trans h.s,(hb.block _ (by omega)).trans h.r,h.rules.below (hb.mono (by omega)),h.below.trans (hb.mono (by omega))⟩
theorem dw.all(h:dw w T N ra rc R s wq):aD wq wq.heap.size (.slice ra R.length rc) R:=h.rules.mono h.below.size
theorem dw.g0(h:dw w T N ra rc R s wq):wq.cell? ⟨w.heap.size,0,none⟩=some (.int .i64 T):=ah h.g rfl
theorem dw.g1(h:dw w T N ra rc R s wq):wq.cell? ⟨w.heap.size,1,none⟩=some (.int .i64 N):=ah h.g rfl
theorem dw.g2(h:dw w T N ra rc R s wq):wq.cell? ⟨w.heap.size,2,none⟩=some (.slice ra R.length rc):=ah h.g rfl
theorem dw.s0(h:dw w T N ra rc R s wq):wq.cell? ⟨w.heap.size+1,0,none⟩=some (.int .i64 s.op):=ah h.s rfl
theorem dw.s1(h:dw w T N ra rc R s wq):wq.cell? ⟨w.heap.size+1,1,none⟩=some (.int .i64 s.a):=ah h.s rfl
theorem dw.s2(h:dw w T N ra rc R s wq):wq.cell? ⟨w.heap.size+1,2,none⟩=some (.int .i64 s.b):=ah h.s rfl
theorem dw.s3(h:dw w T N ra rc R s wq):wq.cell? ⟨w.heap.size+1,3,none⟩=some (.int .i64 s.c):=ah h.s rfl
theorem dw.y0(h:dw w T N ra rc R s wq):wq.cell? ⟨w.heap.size+2,0,none⟩=some (.int .i64 0):=ah h.r rfl
theorem dw.y1(h:dw w T N ra rc R s wq):wq.cell? ⟨w.heap.size+2,1,none⟩=some (.int .i64 0):=ah h.r rfl
theorem dw.y2(h:dw w T N ra rc R s wq):wq.cell? ⟨w.heap.size+2,2,none⟩=some (.slice none 0 0):=ah h.r rfl
theorem dw.yf(h:dw w T N ra rc R s wq)(o:Nat):wq.frozen? ⟨w.heap.size+2,o,none⟩=false:=bE h.r
theorem dw.set(h:dw w T N ra rc R s wq)(v0 v1 v2:Value):Below w.heap.size w (((wq.setCell ⟨w.heap.size+2,0,none⟩ v0).setCell ⟨w.heap.size+2,1,none⟩ v1).setCell ⟨w.heap.size+2,2,none⟩ v2):=
 ((h.below.setCell (by simp) _).setCell (by simp) _).setCell (by simp) _
theorem EI(hr:aD w w.heap.size (.slice ra R.length rc) R):dw w T N ra rc R s (((w.alloc (.cells #[.int .i64 T,.int .i64 N,.slice ra R.length rc] 24)).alloc (.cells #[.int .i64 s.op,.int .i64 s.a,.int .i64 s.b,.int .i64 s.c] 26)).alloc (.cells #[.int .i64 0,.int .i64 0,.slice none 0 0] 24)):=by
 obtain⟨w1,hw1⟩:∃W,w.alloc (.cells #[.int .i64 T,.int .i64 N,.slice ra R.length rc] 24)=W:=⟨_,rfl⟩;have b1:Below w.heap.size w w1:=by rw[<-hw1];exact(Below.refl _ _).alloc (Nat.le_refl _) _
 have z1:w1.heap.size=w.heap.size+1:=by rw[<-hw1];simp
 have c1:w1.heap[w.heap.size]?=some (.cells #[.int .i64 T,.int .i64 N,.slice ra R.length rc] 24 (0,0)):=by rw[<-hw1];exact heap_alloc_new _ _
 rw[hw1];obtain⟨w2,hw2⟩:∃W,w1.alloc (.cells #[.int .i64 s.op,.int .i64 s.a,.int .i64 s.b,.int .i64 s.c] 26)=W:=⟨_,rfl⟩;have b2:Below w1.heap.size w1 w2:=by rw[<-hw2];exact(Below.refl _ _).alloc (Nat.le_refl _) _
 have z2:w2.heap.size=w.heap.size+2:=by rw[<-hw2];simp[z1]
 have c2:w2.heap[w1.heap.size]?=some (.cells #[.int .i64 s.op,.int .i64 s.a,.int .i64 s.b,.int .i64 s.c] 26 (0,0)):=by rw[<-hw2];exact heap_alloc_new _ _
 rw[hw2];obtain⟨w3,hw3⟩:∃W,w2.alloc (.cells #[.int .i64 0,.int .i64 0,.slice none 0 0] 24)=W:=⟨_,rfl⟩;have b3:Below w2.heap.size w2 w3:=by rw[<-hw3];exact(Below.refl _ _).alloc (Nat.le_refl _) _
 have c3:w3.heap[w2.heap.size]?=some (.cells #[.int .i64 0,.int .i64 0,.slice none 0 0] 24 (0,0)):=by rw[<-hw3];exact heap_alloc_new _ _
 rw[hw3];rw[z1]at c2;rw[z2]at c3;have hB:Below w.heap.size w w3:=b1.trans ((b2.mono b1.size).trans (b3.mono (by omega)));exact⟨(b3.block _ (by omega)).trans ((b2.block _ (by omega)).trans c1),(b3.block _ (by omega)).trans c2,c3,hr.below hB,hB⟩
end
theorem abu{w:World}{T N:Int}{ra:Option Addr}{rc:Nat}{R:List Ru}(hr:aD w w.heap.size (.slice ra R.length rc) R)(hm:aZ T N R=false)(s:Stp):
 Calls Tryz.prog 9 #[.agg #[.int .i64 T,.int .i64 N,.slice ra R.length rc],.agg #[.int .i64 s.op,.int .i64 s.a,.int .i64 s.b,.int .i64 s.c]] w fun e w'=>e= .returned (.tuple #[.nilIface,.agg #[.int .i64 0,.int .i64 0,.slice none 0 0],.int .i64 2])/\Below w.heap.size w w':=by
 obtain⟨W0,hW0⟩:∃W,((w.alloc (.cells #[.int .i64 T,.int .i64 N,.slice ra R.length rc] 24)).alloc (.cells #[.int .i64 s.op,.int .i64 s.a,.int .i64 s.b,.int .i64 s.c] 26)).alloc (.cells #[.int .i64 0,.int .i64 0,.slice none 0 0] 24)=W:=⟨_,rfl⟩;have hT0:=EI (T:=T) (N:=N) (s:=s) hr;rw[hW0]at hT0;have HT:Hid (dw w T N ra rc R s W0):=hT0;have may:=sQ (w:=W0) (T:=T) (N:=N) hT0.all;rw[hm]at may;have g0:=hT0.g0;have g1:=hT0.g1;have g2:=hT0.g2;clear hr hm hT0
 go_enter Tryz.func9,Tryz.ntmps9
 go_wp2_with
  (go_at_call 13;refine may.mono ?_;rintro e w2 ⟨rfl,hB2⟩
   have fe:=HT.out.next hB2;have y0:=fe.y0;have y1:=fe.y1;have y2:=fe.y2;have eB:=fe.yf 0;have eD:=fe.yf 1;have Aq:=fe.yf 2;have EJ:Hid (dw w T N ra rc R s w2):=fe
   clear fe hB2 may)
 have q0:=tX (v0:= .int .i64 0) (v1:= .int .i64 0) (v2:= .slice none 0 0) y0;have q1:=tY (v0:= .int .i64 0) (v1:= .int .i64 0) (v2:= .slice none 0 0) y1;have q2:=tZ (v0:= .int .i64 0) (v1:= .int .i64 0) (v2:= .slice none 0 0) y2;refine bodyPost_ret (v:= .tuple #[.nilIface,.agg #[.int .i64 0,.int .i64 0,.slice none 0 0],.int .i64 2]) (by simp[results,Tryz.results9,go_sem,q0,q1,q2]) rfl ?_;exact⟨rfl,EJ.out.set _ _ _⟩
theorem abw{w:World}{T N:Nat}{ra:Option Addr}{rc:Nat}{R:List Ru}(hr:aD w w.heap.size (.slice ra R.length rc) R)(hm:aZ T N R=true)(s:Stp)(hs:aR N R s=false):
 Calls Tryz.prog 9 #[.agg #[.int .i64 T,.int .i64 N,.slice ra R.length rc],.agg #[.int .i64 s.op,.int .i64 s.a,.int .i64 s.b,.int .i64 s.c]] w fun e w'=>e= .returned (.tuple #[.nilIface,.agg #[.int .i64 0,.int .i64 0,.slice none 0 0],.int .i64 2])/\Below w.heap.size w w':=by
 obtain⟨W0,hW0⟩:∃W,((w.alloc (.cells #[.int .i64 T,.int .i64 N,.slice ra R.length rc] 24)).alloc (.cells #[.int .i64 s.op,.int .i64 s.a,.int .i64 s.b,.int .i64 s.c] 26)).alloc (.cells #[.int .i64 0,.int .i64 0,.slice none 0 0] 24)=W:=⟨_,rfl⟩;have hT0:=EI (T:=T) (N:=N) (s:=s) hr;rw[hW0]at hT0;have HT:Hid (dw w T N ra rc R s W0):=hT0;have may:=sQ (w:=W0) (T:=T) (N:=N) hT0.all;rw[hm]at may;have g0:=hT0.g0;have g1:=hT0.g1;have g2:=hT0.g2;have uO:Hid (aZ T N R=true):=hm;have HS:Hid (aR N R s=false):=hs;clear hr hm hT0 hs
 go_enter Tryz.func9,Tryz.ntmps9
 go_wp2_with
  (first
   |(go_at_call 13;refine may.mono ?_;rintro e w2 ⟨rfl,hB2⟩
     have bP:=HT.out.next hB2;have v0:=bP.g0;have v1:=bP.g1;have v2:=bP.g2;have v3:=bP.s0;have v4:=bP.s1;have v5:=bP.s2;have v6:=bP.s3;have HT2:Hid (dw w T N ra rc R s w2):=bP;have ch:=MP bP.all uO.out s;rw[HS.out]at ch
     clear may hB2 bP g0 g1 g2 hW0)
   |(go_at_call 14;refine ch.mono ?_;rintro e w3 ⟨cv,rfl,_,hB3⟩
     have fe:=HT2.out.next hB3;have y0:=fe.y0;have y1:=fe.y1;have y2:=fe.y2;have eB:=fe.yf 0;have eD:=fe.yf 1;have Aq:=fe.yf 2;have EJ:Hid (dw w T N ra rc R s w3):=fe
     clear ch fe hB3 v0 v1 v2 v3 v4 v5 v6))
 have q0:=tX (v0:= .int .i64 0) (v1:= .int .i64 0) (v2:= .slice none 0 0) y0;have q1:=tY (v0:= .int .i64 0) (v1:= .int .i64 0) (v2:= .slice none 0 0) y1;have q2:=tZ (v0:= .int .i64 0) (v1:= .int .i64 0) (v2:= .slice none 0 0) y2;refine bodyPost_ret (v:= .tuple #[.nilIface,.agg #[.int .i64 0,.int .i64 0,.slice none 0 0],.int .i64 2]) (by simp[results,Tryz.results9,go_sem,q0,q1,q2]) rfl ?_;exact⟨rfl,EJ.out.set _ _ _⟩
theorem abx{w:World}{T N:Nat}{ra:Option Addr}{rc:Nat}{R:List Ru}(hr:aD w w.heap.size (.slice ra R.length rc) R)(hm:aZ T N R=true)(s:Stp)(hs:aR N R s=true)(hz:aZ T (gm N s:Nat) (aM N R s)=false):
 Calls Tryz.prog 9 #[.agg #[.int .i64 T,.int .i64 N,.slice ra R.length rc],.agg #[.int .i64 s.op,.int .i64 s.a,.int .i64 s.b,.int .i64 s.c]] w fun e w'=>e= .returned (.tuple #[.nilIface,.agg #[.int .i64 0,.int .i64 0,.slice none 0 0],.int .i64 1])/\Below w.heap.size w w':=by
 obtain⟨W0,hW0⟩:∃W,((w.alloc (.cells #[.int .i64 T,.int .i64 N,.slice ra R.length rc] 24)).alloc (.cells #[.int .i64 s.op,.int .i64 s.a,.int .i64 s.b,.int .i64 s.c] 26)).alloc (.cells #[.int .i64 0,.int .i64 0,.slice none 0 0] 24)=W:=⟨_,rfl⟩;have hT0:=EI (T:=T) (N:=N) (s:=s) hr;rw[hW0]at hT0;have HT:Hid (dw w T N ra rc R s W0):=hT0;have may:=sQ (w:=W0) (T:=T) (N:=N) hT0.all;rw[hm]at may;have g0:=hT0.g0;have g1:=hT0.g1;have g2:=hT0.g2;have uO:Hid (aZ T N R=true):=hm;have HS:Hid (aR N R s=true):=hs;have HZ:Hid (aZ T (gm N s:Nat) (aM N R s)=false):=hz;obtain⟨M,hM⟩:∃M,gm N s=M:=⟨_,rfl⟩;rw[hM]at HZ;have HM:Hid (gm N s=M):=hM;clear hr hm hT0 hs hz hM
 go_enter Tryz.func9,Tryz.ntmps9
 go_wp2_with
  (first
   |(go_at_call 13;refine may.mono ?_;rintro e w2 ⟨rfl,hB2⟩
     have bP:=HT.out.next hB2;have v0:=bP.g0;have v1:=bP.g1;have v2:=bP.g2;have v3:=bP.s0;have v4:=bP.s1;have v5:=bP.s2;have v6:=bP.s3;have HT2:Hid (dw w T N ra rc R s w2):=bP;have ch:=MP bP.all uO.out s;rw[HS.out]at ch
     clear may hB2 bP g0 g1 g2 hW0)
   |(go_at_call 14;refine ch.mono ?_;rintro e w3 ⟨cv,rfl,hcv,hB3⟩
     have bY:=HT2.out.next hB3;obtain⟨ty,v,fn,hcf,hme,hfn,out⟩:=Tp (by first|exact hcv rfl|exact hcv trivial) bY.all uO.out HS.out;rw[HM.out]at out;subst hcf;have HT3:Hid (dw w T N ra rc R s w3):=bY;have EK:=(by first|exact hcv rfl|exact hcv trivial:fI w3 w2.heap.size T N ra rc R s (.iface ty v));have EL:Hid (fI w3 w2.heap.size T N ra rc R s (.iface ty v)):=EK
     clear ch bY hB3 hcv EK v0 v1 v2 v3 v4 v5 v6)
   |(refine out.mono ?_;rintro e w4 ⟨lv,RL,rfl,EM,hmap,hB4⟩
     have ay:Below w3.heap.size w3 (w4.alloc (.cells #[.int .i64 T,.int .i64 M,lv] 24)):=hB4.alloc hB4.size _;have qC:=EM.below ((Below.refl _ _).alloc (Nat.le_refl _) (.cells #[.int .i64 T,.int .i64 M,lv] 24));have jA:=HT3.out.next ay;have hb5:=heap_alloc_new w4 (.cells #[.int .i64 T,.int .i64 M,lv] 24);have vT:Hid (bA (w4.alloc (.cells #[.int .i64 T,.int .i64 M,lv] 24)) w3.heap.size lv RL/\(RL.map fun x=>x.2)=aM N R s/\dw w T N ra rc R s (w4.alloc (.cells #[.int .i64 T,.int .i64 M,lv] 24))/\(w4.alloc (.cells #[.int .i64 T,.int .i64 M,lv] 24)).heap[w4.heap.size]?=some (.cells #[.int .i64 T,.int .i64 M,lv] 24 (0,0))/\fI (w4.alloc (.cells #[.int .i64 T,.int .i64 M,lv] 24)) w2.heap.size T N ra rc R s (.iface ty v)/\w3.heap.size<=w4.heap.size):=⟨qC,hmap,jA,hb5,EL.out.next ay,hB4.size⟩;obtain⟨la,lc,hlv⟩:=aY qC.own;subst hlv;have zy:=sQ (w:=w4.alloc (.cells #[.int .i64 T,.int .i64 M,.slice la RL.length lc] 24)) (T:=T) (N:=M) qC.rules;rw[hmap,HZ.out]at zy
     clear out EM hmap hB4 ay qC jA hb5 hme hfn)
   |(go_at_call 13;refine zy.mono ?_;rintro e w6 ⟨rfl,aK⟩
     have fe:=vT.out.2.2.1.next aK;have y0:=fe.y0;have y1:=fe.y1;have y2:=fe.y2;have eB:=fe.yf 0;have eD:=fe.yf 1;have Aq:=fe.yf 2;have EJ:Hid (dw w T N ra rc R s w6):=fe
     clear zy fe aK))
 have q0:=tX (v0:= .int .i64 0) (v1:= .int .i64 0) (v2:= .slice none 0 0) y0;have q1:=tY (v0:= .int .i64 0) (v1:= .int .i64 0) (v2:= .slice none 0 0) y1;have q2:=tZ (v0:= .int .i64 0) (v1:= .int .i64 0) (v2:= .slice none 0 0) y2;refine bodyPost_ret (v:= .tuple #[.nilIface,.agg #[.int .i64 0,.int .i64 0,.slice none 0 0],.int .i64 1]) (by simp[results,Tryz.results9,go_sem,q0,q1,q2]) rfl ?_;exact⟨rfl,EJ.out.set _ _ _⟩
theorem M8{w:World}{T N:Nat}{ra:Option Addr}{rc:Nat}{R:List Ru}(hr:aD w w.heap.size (.slice ra R.length rc) R)(hm:aZ T N R=true)(s:Stp)(hs:aR N R s=true)(hz:aZ T (gm N s:Nat) (aM N R s)=true):
 Calls Tryz.prog 9 #[.agg #[.int .i64 T,.int .i64 N,.slice ra R.length rc],.agg #[.int .i64 s.op,.int .i64 s.a,.int .i64 s.b,.int .i64 s.c]] w fun e w'=> ∃cv lv RL,e= .returned (.tuple #[cv,.agg #[.int .i64 T,.int .i64 (gm N s:Nat),lv],.int .i64 0])/\fI w' w.heap.size T N ra rc R s cv/\bA w' w.heap.size lv RL/\(RL.map fun x=>x.2)=aM N R s/\Below w.heap.size w w':=by
 obtain⟨W0,hW0⟩:∃W,((w.alloc (.cells #[.int .i64 T,.int .i64 N,.slice ra R.length rc] 24)).alloc (.cells #[.int .i64 s.op,.int .i64 s.a,.int .i64 s.b,.int .i64 s.c] 26)).alloc (.cells #[.int .i64 0,.int .i64 0,.slice none 0 0] 24)=W:=⟨_,rfl⟩;have hT0:=EI (T:=T) (N:=N) (s:=s) hr;rw[hW0]at hT0;have HT:Hid (dw w T N ra rc R s W0):=hT0;have may:=sQ (w:=W0) (T:=T) (N:=N) hT0.all;rw[hm]at may;have g0:=hT0.g0;have g1:=hT0.g1;have g2:=hT0.g2;have uO:Hid (aZ T N R=true):=hm;have HS:Hid (aR N R s=true):=hs;have HZ:Hid (aZ T (gm N s:Nat) (aM N R s)=true):=hz;obtain⟨M,hM⟩:∃M,gm N s=M:=⟨_,rfl⟩;rw[hM]at HZ⊢;have HM:Hid (gm N s=M):=hM;clear hr hm hT0 hs hz hM
 go_enter Tryz.func9,Tryz.ntmps9
 go_wp2_with
  (first
   |(go_at_call 13;refine may.mono ?_;rintro e w2 ⟨rfl,hB2⟩
     have bP:=HT.out.next hB2;have v0:=bP.g0;have v1:=bP.g1;have v2:=bP.g2;have v3:=bP.s0;have v4:=bP.s1;have v5:=bP.s2;have v6:=bP.s3;have HT2:Hid (dw w T N ra rc R s w2):=bP;have ch:=MP bP.all uO.out s;rw[HS.out]at ch
     clear may hB2 bP g0 g1 g2 hW0)
   |(go_at_call 14;refine ch.mono ?_;rintro e w3 ⟨cv,rfl,hcv,hB3⟩
     have bY:=HT2.out.next hB3;obtain⟨ty,v,fn,hcf,hme,hfn,out⟩:=Tp (by first|exact hcv rfl|exact hcv trivial) bY.all uO.out HS.out;rw[HM.out]at out;subst hcf;have HT3:Hid (dw w T N ra rc R s w3):=bY;have EK:=(by first|exact hcv rfl|exact hcv trivial:fI w3 w2.heap.size T N ra rc R s (.iface ty v));have EL:Hid (fI w3 w2.heap.size T N ra rc R s (.iface ty v)):=EK
     clear ch bY hB3 hcv EK v0 v1 v2 v3 v4 v5 v6)
   |(refine out.mono ?_;rintro e w4 ⟨lv,RL,rfl,EM,hmap,hB4⟩
     have ay:Below w3.heap.size w3 (w4.alloc (.cells #[.int .i64 T,.int .i64 M,lv] 24)):=hB4.alloc hB4.size _;have qC:=EM.below ((Below.refl _ _).alloc (Nat.le_refl _) (.cells #[.int .i64 T,.int .i64 M,lv] 24));have jA:=HT3.out.next ay;have hb5:=heap_alloc_new w4 (.cells #[.int .i64 T,.int .i64 M,lv] 24);have vT:Hid (bA (w4.alloc (.cells #[.int .i64 T,.int .i64 M,lv] 24)) w3.heap.size lv RL/\(RL.map fun x=>x.2)=aM N R s/\dw w T N ra rc R s (w4.alloc (.cells #[.int .i64 T,.int .i64 M,lv] 24))/\(w4.alloc (.cells #[.int .i64 T,.int .i64 M,lv] 24)).heap[w4.heap.size]?=some (.cells #[.int .i64 T,.int .i64 M,lv] 24 (0,0))/\fI (w4.alloc (.cells #[.int .i64 T,.int .i64 M,lv] 24)) w2.heap.size T N ra rc R s (.iface ty v)/\w3.heap.size<=w4.heap.size):=⟨qC,hmap,jA,hb5,EL.out.next ay,hB4.size⟩;obtain⟨la,lc,hlv⟩:=aY qC.own;subst hlv;have zy:=sQ (w:=w4.alloc (.cells #[.int .i64 T,.int .i64 M,.slice la RL.length lc] 24)) (T:=T) (N:=M) qC.rules;rw[hmap,HZ.out]at zy
     clear out EM hmap hB4 ay qC jA hb5 hme hfn)
   |(go_at_call 13;refine zy.mono ?_;rintro e w6 ⟨rfl,aK⟩
     have jM:Hid (Below (w4.alloc (.cells #[.int .i64 T,.int .i64 M,.slice la RL.length lc] 24)).heap.size (w4.alloc (.cells #[.int .i64 T,.int .i64 M,.slice la RL.length lc] 24)) w6):=aK
     clear zy aK))
 have iY:=vT.out.2.2.1.next jM.out;have Br:=vT.out.1.below jM.out;have Bz:=vT.out.2.2.2.2.1.next jM.out;have hlo2:w.heap.size+3<=w2.heap.size:=HT2.out.size;have afK:=vT.out.2.2.2.2.2;have IZ:=(jM.out.block w4.heap.size (by simp)).trans vT.out.2.2.2.1;obtain⟨ob,Tq⟩:∃x,w4.heap.size=x:=⟨_,rfl⟩;rw[Tq]at IZ⊢;have BA:Hid ((RL.map fun x=>x.2)=aM N R s):=vT.out.2.1;have hlo:w.heap.size+3<=w3.heap.size:=HT3.out.size;obtain⟨Wd,hWd⟩:∃W,w6.drew=W:=⟨_,rfl⟩;have hBd:Below w6.heap.size w6 Wd:=by rw[<-hWd];exact(Below.refl _ _).drew
 have xI:=iY.next hBd;have lq:=Br.below hBd;have rF:=Bz.next hBd;have I4:=(hBd.block ob (Array.getElem?_eq_some_iff.1 IZ).1).trans IZ;have y0:=xI.y0;have y1:=xI.y1;have y2:=xI.y2;have eB:=xI.yf 0;have eD:=xI.yf 1;have Aq:=xI.yf 2;have o0:Wd.cell? ⟨ob,0,none⟩=some (.int .i64 T):=ah I4 rfl;have o1:Wd.cell? ⟨ob,1,none⟩=some (.int .i64 M):=ah I4 rfl;have o2:Wd.cell? ⟨ob,2,none⟩=some (.slice la RL.length lc):=ah I4 rfl;have HF:Hid (dw w T N ra rc R s Wd/\bA Wd w3.heap.size (.slice la RL.length lc) RL/\fI Wd w2.heap.size T N ra rc R s (.iface ty v)):=⟨xI,lq,rF⟩;have afL:w.heap.size+3<=ob:=by omega
 clear iY Br Bz IZ Tq hBd xI lq rF I4 vT jM;refine iw [0,1] 3 4 (fun wq=>wq.cell? ⟨ob,0,none⟩=some (.int .i64 T)/\wq.cell? ⟨ob,1,none⟩=some (.int .i64 M)/\wq.cell? ⟨ob,2,none⟩=some (.slice la RL.length lc)) (by kernel_rfl) (by kernel_rfl) (by rw[hWd];exact⟨o0,o1,o2⟩) ?_;rw[hWd];clear hWd
 iterate 2
  refine aU.gN (v:= ?_) rfl (by rfl) ?_ ?_;rotate_left
  ·intro w' hSw
   obtain⟨z0,z1,z2⟩:=hSw
   go_simp
   try with_reducible rfl
  simp only[Act.put,List.setIfInBounds_toArray,List.set_cons_zero,List.set_cons_succ]
 rw[aU];refine ax.one (i:=2) (by kernel_rfl) ⟨_,rfl,fun K hK=> ?_⟩
 go_simp
 refine hK.out _ _ (fun _=>⟨o0,o1,o2⟩) ?_;clear hK;refine ax.one (i:=3) (by kernel_rfl) ⟨_,rfl,fun K hK=> ?_⟩
 go_simp
 refine hK.out _ _ (fun _=>⟨?_,?_,?_⟩) ?_
 ·rw[dH (.inl (by simp only;omega)),dH (.inl (by simp only;omega)),dH (.inl (by simp only;omega))];exact o0
 ·rw[dH (.inl (by simp only;omega)),dH (.inl (by simp only;omega)),dH (.inl (by simp only;omega))];exact o1
 ·rw[dH (.inl (by simp only;omega)),dH (.inl (by simp only;omega)),dH (.inl (by simp only;omega))];exact o2
 clear hK;refine ax.last (i:=4) (by kernel_rfl) ⟨_,rfl,fun K hK=> ?_⟩
 go_simp
 refine hK.out _ _ (fun h=>absurd h (by omega)) (NoPanic.normal ?_);clear hK;have q0:=tX (v0:= .int .i64 T) (v1:= .int .i64 M) (v2:= .slice la RL.length lc) y0;have q1:=tY (v0:= .int .i64 T) (v1:= .int .i64 M) (v2:= .slice la RL.length lc) y1;have q2:=tZ (v0:= .int .i64 T) (v1:= .int .i64 M) (v2:= .slice la RL.length lc) y2
 go_wp2_with fail
 refine bodyPost_ret (v:= .tuple #[.iface ty v,.agg #[.int .i64 T,.int .i64 M,.slice la RL.length lc],.int .i64 0]) (by simp[results,Tryz.results9,go_sem,q0,q1,q2]) rfl ?_;refine⟨_,_,RL,rfl,?_,?_,BA.out,HF.out.1.set _ _ _⟩
 ·exact(((HF.out.2.2.set (by simp only;omega) _).set (by simp only;omega) _).set (by simp only;omega) _).mono (by omega)
 ·exact(((HF.out.2.1.oV (by simp only;omega) _).oV (by simp only;omega) _).oV (by simp only;omega) _).mono (by omega)
theorem BB{R:List Ru}{P:Nat->Fo->Prop}(h:∀q ks,q<R.length->okF R ks (aB (R.getD q (0,[])).2)->P q ks):∀(t:Fo) (ns:List Int),okF R t ns->kY P t
 | .no,_,_=>trivial
 | .nd q ks ts,_,⟨_,_,_,h1,_,h3,h4⟩=>⟨h q ks h1 h3,BB h ks _ h3,BB h ts _ h4⟩
theorem Tt{p:Nat->Bool}{n q:Nat}(hq:q<n)(hp:p q=true):DT (aV p n) (qd p) q:=by
 refine⟨KZ hq hp,getD_some (Dt hq hp),fun j hj e=> ?_⟩;have hl:=KZ (p:=p) hq hp;obtain⟨q',h1,h2,h3,h4⟩:=Du (p:=p) (n:=n) (j:=j) (by omega);rw[getD_some h3]at e;subst e;omega
section
variable{T N:Nat}{R:List Ru}
theorem aby(hf:cO T N R):∀(t:Fo) (ns:List Int),(∀n∈ns,lK N R n)->okF R t ns->xu (DT (aV (fun k=>fu N R (R.getD k (0,[]))) R.length) (qd fun k=>fu N R (R.getD k (0,[])))) t:=by
 have hP:=G7 hf (a:=0) (b:=0) (c:=0);intro t
 induction t with
 |no=>intro _ _ _;trivial
 |nd q ks ts ihk pW=>
  rintro ns hC ⟨n,ns',rfl,h1,h2,h3,h4⟩;have hM:=GN hP _ _ h3
  have hall:nY (eH N R) (R.getD q (0,[])).2:=fun x hx hb=>by
   obtain⟨t,n⟩:=x;cases hb;exact hM n (K3.2 hx)
  have rE:lK N R (R.getD q (0,[])).1:=by rw[h2];exact hC n (List.mem_cons_self ..)
  have hn:fu N R (R.getD q (0,[]))=true:=(Qo hf (jV h1)).2 ⟨hP.makes q h1 hM,rE,hall⟩;obtain⟨_,_,_,s4⟩:=hP.stays q h1 rE hM;exact⟨Tt (p:=fun k=>fu N R (R.getD k (0,[]))) h1 hn,ihk _ s4 h3,pW _ (fun x hx=>hC x (List.mem_cons_of_mem _ hx)) h4⟩
theorem abz{l:List Sy}{b c:Nat}(h:b<=c):(aB (l.take c)).length=(aB (l.take b)).length+(aB ((l.take c).drop b)).length:=by
 have e:l.take c=l.take b++(l.take c).drop b:=by
  conv=>lhs;rw[<-List.take_append_drop b (l.take c)]
  rw[List.take_take,Nat.min_eq_left h]
 conv=>lhs;rw[e]
 rw[gT,List.length_append]
theorem Tv{a b c:Int}(hs:aR N R ⟨3,a,b,c⟩=true)(hR:R.length<=40)(q:Nat)(ks:Fo)(hq:q<R.length)(hok:okF R ks (aB (R.getD q (0,[])).2)):AZ (qg R ⟨3,a,b,c⟩) (qd fun k=>decide ((R.getD k (0,[])).1=vE R ⟨3,a,b,c⟩)) (Dw R ⟨3,a,b,c⟩) (yO R ⟨3,a,b,c⟩) (yP R ⟨3,a,b,c⟩) a.toNat (nZ R ⟨3,a,b,c⟩) q ks:=by
 obtain⟨l3,h⟩:=He hs;refine⟨by omega,fun _=>rfl,fun e=> ?_⟩;subst e;rw[h.cut,gT]at hok;obtain⟨k1,kk,rfl,c1,c2⟩:=pX _ _ _ hok;obtain⟨j,k2,k3,rfl,d1,d2,d3,d4⟩:=rV c2;have hj:j≠a.toNat:=fun e=>h.ne (by rw[<-e];exact d2);exact⟨j,k2,k3,KN (mR _ _ c1),hj,(h.stays j d1 hj).2.2.1,Tt (p:=fun k=>decide ((R.getD k (0,[])).1=vE R ⟨3,a,b,c⟩)) d1 (by simpa using d2),rfl⟩
theorem Tw{a b c:Int}(hs:aR N R ⟨3,a,b,c⟩=true)(hR:(aM N R ⟨3,a,b,c⟩).length<=40)(q:Nat)(ks:Fo)(hq:q<(aM N R ⟨3,a,b,c⟩).length)(hok:okF (aM N R ⟨3,a,b,c⟩) ks (aB ((aM N R ⟨3,a,b,c⟩).getD q (0,[])).2)):Ie R (qg R ⟨3,a,b,c⟩) (yO R ⟨3,a,b,c⟩) (AP R ⟨3,a,b,c⟩) (K6 R) a.toNat (nZ R ⟨3,a,b,c⟩) q ks:=by
 obtain⟨l3,h⟩:=He hs;refine⟨by omega,fun hin=> ?_,fun j hin=> ?_⟩
 ·have hk:q<a.toNat\/a.toNat+(qg R ⟨3,a,b,c⟩).length<=q:=by
   by_cases hl:q<a.toNat
   ·exact .inl hl
   ·refine .inr ?_
    unfold AP at hin;simp only at hin;rw[if_neg hl,List.getElem?_eq_none_iff]at hin;omega
  exact⟨hk,hk.imp id fun h=>by omega,rfl⟩
 ·have hl:¬q<a.toNat:=fun hl=>by
   unfold AP at hin;simp only at hin;rw[if_pos hl]at hin;cases hin
  have hin':=hin;unfold AP at hin;simp only at hin;rw[if_neg hl]at hin;have hlt:=(List.getElem?_eq_some_iff.1 hin).1;obtain⟨q',g1,g2,g3,g4⟩:=Du (p:=fun k=>decide ((R.getD k (0,[])).1=vE R ⟨3,a,b,c⟩)) (n:=R.length) (j:=q-a.toNat) hlt
  have hqj:q'=j:=by
   have:(qg R ⟨3,a,b,c⟩)[q-a.toNat]?=some q':=g3;rw[hin]at this;injection this with this;exact this.symm
  subst hqj;have K4:(R.getD q' (0,[])).1=vE R ⟨3,a,b,c⟩:=by simpa using g2
  obtain⟨m1,m2,m3⟩:=h.made q' g1 K4
  have vM:yP R ⟨3,a,b,c⟩ q'=q:=by
   unfold yP;simp only;rw[g4];omega
  rw[vM]at m2;rw[m2,gT,gT]at hok;have hlen:=mR _ _ hok;rw[List.length_append,List.length_append]at hlen;refine⟨by omega,hlt,getD_some hin,?_,g1,rfl⟩;show (aB ((R.getD a.toNat (0,[])).2.take b.toNat)).length+(aB (R.getD q' (0,[])).2).length<=aS ks;omega
end
section
variable{w:World}{B T N:Nat}{ra:Option Addr}{rc:Nat}{R:List Ru}{s:Stp}{cv:Value}
theorem abA(hc:fI w B T N ra rc R s cv)(hr:aD w w.heap.size (.slice ra R.length rc) R)(hm:aZ T N R=true)(hs:aR N R s=true):
 ∃ty v fn,cv= .iface ty v/\Over w ty v "pollarding/step.forward" fn (fun q ks=>okF R (.nd q ks .no) [0]/\(ai ks).length<=2000) (fun q ks=>(rX (qX N R s (.nd q ks .no)),ug (qX N R s (.nd q ks .no)))):=by
 obtain⟨hT,hN1,hN,hRl,h5⟩:=kM hm;have hf:=zf hm;obtain⟨op,a,b,c⟩:=s;rcases G9 hs with h|h|h|h|h<;>simp only at h<;>subst h
 ·refine⟨_,_,131,hc.swap rfl,fun n w'=>by kernel_rfl,fun args w'=>by simp[callFunc,Tryz.func131,Tryz.f131 ],fun w' q ks kv A hb hP hk hA=> ?_⟩
  exact ZW hk hA
 ·have hst:0<=a/\a<(R.length:Int)/\0<=b/\b<c/\c<=((R.getD a.toNat (0,[])).2.length:Int):=by
   unfold aR at hs;simp only at hs;rw[if_neg (by decide),if_pos trivial]at hs;simp only[Bool.and_eq_true,decide_eq_true_eq]at hs;omega
  have hE:=GV hf hs;have hsum:(aB ((sW R ⟨2,a,b,c⟩).2.take c.toNat)).length=nZ R ⟨2,a,b,c⟩+G8 R ⟨2,a,b,c⟩:=abz (l:=(sW R ⟨2,a,b,c⟩).2) (b:=b.toNat) (c:=c.toNat) (by omega);have hcv:=hc.extract rfl;simp only at hcv;rw[hsum]at hcv;obtain⟨ka,hka⟩:∃x:Nat,a=x:=⟨a.toNat,by omega⟩;refine⟨_,_,139,hcv,fun n w'=>by kernel_rfl,fun args w'=>by simp[callFunc,Tryz.func139,Tryz.f139 ],fun w' q ks kv A hb hP hk hA=> ?_⟩
  have hcond:∀q ks,q<R.length->okF R ks (aB (R.getD q (0,[])).2)->(q=ka->nZ R ⟨2,a,b,c⟩+G8 R ⟨2,a,b,c⟩<=aS ks):=fun q ks hq hok e=>by
   have e2:q=a.toNat:=by rw[hka];simpa using e
   rw[e2,hE.cut,gT,gT]at hok;have hlen:=mR _ _ hok;rw[List.length_append,List.length_append]at hlen;show (aB ((R.getD a.toNat (0,[])).2.take b.toNat)).length+(aB (((R.getD a.toNat (0,[])).2.take c.toNat).drop b.toNat)).length<=aS ks;omega
  obtain⟨n',ns',_,h1,h2,h3,h4⟩:=hP.1;have:=Z4 (T:=T) (N:=N) (o:=2) (b:=b) (c:=c) (ra:=ra) (rl:=R.length) (rc:=rc) (fr:=nZ R ⟨2,a,b,c⟩) (m:=G8 R ⟨2,a,b,c⟩) (ka:=ka) _ w' q ks kv A (Nat.lt_succ_self _) (hcond q ks h1 h3) (BB hcond ks _ h3) hP.2 hk hA;have e3:a.toNat=ka:=by rw[hka];simp
  rw[<-hka,<-e3]at this;exact this
 ·have hst:0<=a/\a<(R.length:Int):=by
   unfold aR at hs;simp only at hs;rw[if_neg (by decide),if_neg (by decide),if_pos trivial]at hs;simp only[Bool.and_eq_true,decide_eq_true_eq,Bool.not_eq_true',decide_eq_false_iff_not]at hs;omega
  obtain⟨ov,hcv,hO⟩:=hc.inline rfl;simp only at hcv;obtain⟨ka,hka⟩:∃x:Nat,a=x:=⟨a.toNat,by omega⟩;have e3:a.toNat=ka:=by rw[hka];simp
  refine⟨_,_,148,hcv,fun n w'=>by kernel_rfl,fun args w'=>by simp[callFunc,Tryz.func148,Tryz.f148 ],fun w' q ks kv A hb hP hk hA=> ?_⟩;obtain⟨n',ns',_,h1,h2,h3,h4⟩:=hP.1
  have uz:(qg R ⟨3,a,b,c⟩).length<=100000:=by
   have:=yQ (fun k=>decide ((R.getD k (0,[])).1=vE R ⟨3,a,b,c⟩)) R.length;unfold qg;omega
  have:=aad (w0:=w) (T:=T) (N:=N) (o:=3) (b:=b) (c:=c) (ra:=ra) (rl:=R.length) (rc:=rc) (I:=qg R ⟨3,a,b,c⟩) uz hO _ w' q ks kv A (Nat.lt_succ_self _) hb (Tv hs hRl q ks h1 h3) (BB (Tv hs hRl) ks _ h3) hP.2 hk hA;rw[e3,<-hka,<-e3]at this;exact this
 ·refine⟨_,_,156,hc.left rfl,fun n w'=>by kernel_rfl,fun args w'=>by simp[callFunc,Tryz.func156,Tryz.f156 ],fun w' q ks kv A hb hP hk hA=> ?_⟩
  exact aam (AO hf hs) (fun q hq=>by simp[hq]) hr _ w' q ks kv A (Nat.lt_succ_self _) hb ⟨_,hP.1⟩ hP.2 hk hA
 ·obtain⟨ov,hcv,hO⟩:=hc.Bn rfl
  refine⟨_,_,160,hcv,fun n w'=>by kernel_rfl,fun args w'=>by simp[callFunc,Tryz.func160,Tryz.f160 ],fun w' q ks kv A hb hP hk hA=> ?_⟩;have hPr:=G7 hf (a:=a) (b:=b) (c:=c);have hM:=GN hPr _ _ hP.1 0 (List.mem_singleton.2 rfl);have hall:=aby hf (.nd q ks .no) [0] (fun n hn=>by rw[List.mem_singleton.1 hn];exact jo (Au hf _) _ (.inl ⟨rfl,hM⟩)) hP.1
  have uz:(aV (fun k=>fu N R (R.getD k (0,[]))) R.length).length<=100000:=by
   have:=yQ (fun k=>fu N R (R.getD k (0,[]))) R.length;omega
  exact Z0 uz hO _ w' q ks kv A (Nat.lt_succ_self _) hb hall.1 hall.2.1 hP.2 hk hA
theorem abB(hc:fI w B T N ra rc R s cv)(hr:aD w w.heap.size (.slice ra R.length rc) R)(hm:aZ T N R=true)(hs:aR N R s=true)(hz:aZ T (gm N s:Nat) (aM N R s)=true):
 ∃ty v fn,cv= .iface ty v/\Over w ty v "pollarding/step.back" fn (fun q ks=>okF (aM N R s) (.nd q ks .no) [0]/\(ai ks).length<=2000) (fun q ks=>(rX (qY N R s (.nd q ks .no)),ug (qY N R s (.nd q ks .no)))):=by
 obtain⟨hT,hN1,hN,hRl,h5⟩:=kM hm;obtain⟨_,_,_,Tx,_⟩:=kM hz;have hf:=zf hm;obtain⟨op,a,b,c⟩:=s;rcases G9 hs with h|h|h|h|h<;>simp only at h<;>subst h
 ·refine⟨_,_,130,hc.swap rfl,fun n w'=>by kernel_rfl,fun args w'=>by simp[callFunc,Tryz.func130,Tryz.f130 ],fun w' q ks kv A hb hP hk hA=> ?_⟩
  exact ZX hk hA
 ·have hst:0<=a/\a<(R.length:Int)/\0<=b/\b<c/\c<=((R.getD a.toNat (0,[])).2.length:Int):=by
   unfold aR at hs;simp only at hs;rw[if_neg (by decide),if_pos trivial]at hs;simp only[Bool.and_eq_true,decide_eq_true_eq]at hs;omega
  have hE:=GV hf hs;have hcv:=hc.extract rfl;simp only at hcv;obtain⟨ka,hka⟩:∃x:Nat,a=x:=⟨a.toNat,by omega⟩;have e3:a.toNat=ka:=by rw[hka];simp
  refine⟨_,_,138,hcv,fun n w'=>by kernel_rfl,fun args w'=>by simp[callFunc,Tryz.func138,Tryz.f138 ],fun w' q ks kv A hb hP hk hA=> ?_⟩
  have hcond:∀q ks,q<(aM N R ⟨2,a,b,c⟩).length->okF (aM N R ⟨2,a,b,c⟩) ks (aB ((aM N R ⟨2,a,b,c⟩).getD q (0,[])).2)->(q=ka->nZ R ⟨2,a,b,c⟩<aS ks):=fun q ks hq hok e=>by
   rw[e,<-e3,hE.here,gT]at hok;have hlen:=mR _ _ hok;rw[List.length_append,aB,List.length_cons]at hlen;show (aB ((R.getD a.toNat (0,[])).2.take b.toNat)).length<aS ks;omega
  obtain⟨n',ns',_,h1,h2,h3,h4⟩:=hP.1;have:=Z5 (T:=T) (N:=N) (o:=2) (b:=b) (c:=c) (ra:=ra) (rl:=R.length) (rc:=rc) (fr:=nZ R ⟨2,a,b,c⟩) (up:=(aB ((sW R ⟨2,a,b,c⟩).2.take c.toNat)).length) (ka:=ka) _ w' q ks kv A (Nat.lt_succ_self _) (hcond q ks h1 h3) (BB hcond ks _ h3) hP.2 hk hA;rw[<-hka,<-e3]at this;exact this
 ·have hst:0<=a/\a<(R.length:Int):=by
   unfold aR at hs;simp only at hs;rw[if_neg (by decide),if_neg (by decide),if_pos trivial]at hs;simp only[Bool.and_eq_true,decide_eq_true_eq,Bool.not_eq_true',decide_eq_false_iff_not]at hs;omega
  obtain⟨ov,hcv,hO⟩:=hc.inline rfl;simp only at hcv;obtain⟨ka,hka⟩:∃x:Nat,a=x:=⟨a.toNat,by omega⟩;have e3:a.toNat=ka:=by rw[hka];simp
  refine⟨_,_,147,hcv,fun n w'=>by kernel_rfl,fun args w'=>by simp[callFunc,Tryz.func147,Tryz.f147 ],fun w' q ks kv A hb hP hk hA=> ?_⟩;obtain⟨n',ns',_,h1,h2,h3,h4⟩:=hP.1
  have uz:(qg R ⟨3,a,b,c⟩).length<=100000:=by
   have:=yQ (fun k=>decide ((R.getD k (0,[])).1=vE R ⟨3,a,b,c⟩)) R.length;unfold qg;omega
  have Mf:∀q,(R.getD q (0,[])).2.length<=1000:=fun q=>by
   by_cases hq:q<R.length
   ·have:=(h5 q hq).2.2.1;omega
   ·simp[List.getD,hq]
  have:=aaf (w0:=w) (T:=T) (N:=N) (o:=3) (b:=b) (c:=c) (ra:=ra) (rc:=rc) (R:=R) (I:=qg R ⟨3,a,b,c⟩) uz (show a.toNat<=100000 by omega) hO hr Mf _ w' q ks kv A (Nat.lt_succ_self _) hb (Tw hs Tx q ks h1 h3) (BB (Tw hs Tx) ks _ h3) hP.2 hk hA;rw[e3,<-hka,<-e3]at this;exact this
 ·refine⟨_,_,155,hc.left rfl,fun n w'=>by kernel_rfl,fun args w'=>by simp[callFunc,Tryz.func155,Tryz.f155 ],fun w' q ks kv A hb hP hk hA=> ?_⟩
  exact aaq (AO hf hs) hr _ w' q ks kv A (Nat.lt_succ_self _) hb ⟨0,by omega,hP.1⟩ hP.2 hk hA
 ·obtain⟨ov,hcv,hO⟩:=hc.Bn rfl
  refine⟨_,_,159,hcv,fun n w'=>by kernel_rfl,fun args w'=>by simp[callFunc,Tryz.func159,Tryz.f159 ],fun w' q ks kv A hb hP hk hA=> ?_⟩
  have hlen:(aM N R ⟨5,a,b,c⟩).length=(aV (fun k=>fu N R (R.getD k (0,[]))) R.length).length:=by
   have hl:jU N R ⟨5,a,b,c⟩=[]:=by unfold jU;simp only;rw[if_neg (by decide),if_neg (by decide)]
   have hd:aM N R ⟨5,a,b,c⟩=(aV (fun k=>fu N R (R.getD k (0,[]))) R.length).map fun k=>R.getD k (0,[]):=by
    unfold aM aV;rw[hl,List.append_nil,<-G6]
    congr 1
   rw[hd,List.length_map]
  have hall:=Ma _ _ hP.1;rw[hlen]at hall;exact ZY hO _ w' q ks kv A (Nat.lt_succ_self _) hb hall.1 hall.2.1 hP.2 hk hA
end
def fJ(T N:Int)(R:List Ru)(s:Stp):Int×Int×Int×List Ru:=
 if aZ T N R&&aR N R s then (if aZ T (gm N.toNat s:Nat) (aM N.toNat R s) then (T,(gm N.toNat s:Nat),0,aM N.toNat R s) else (0,0,1,[])) else (0,0,2,[])
theorem Ty{T N:Int}{R:List Ru}(hm:aZ T N R=true):∃t n:Nat,T=t/\N=n:=by
 simp only[aZ,Ac,Bool.and_eq_true,decide_eq_true_eq]at hm;exact⟨T.toNat,N.toNat,by omega,by omega⟩
theorem abC{w:World}{T N:Int}{ra:Option Addr}{rc:Nat}{R:List Ru}(hr:aD w w.heap.size (.slice ra R.length rc) R)(s:Stp):
 Calls Tryz.prog 9 #[.agg #[.int .i64 T,.int .i64 N,.slice ra R.length rc],.agg #[.int .i64 s.op,.int .i64 s.a,.int .i64 s.b,.int .i64 s.c]] w fun e w'=> ∃cv lv RL,e= .returned (.tuple #[cv,.agg #[.int .i64 (fJ T N R s).1,.int .i64 (fJ T N R s).2.1,lv],.int .i64 (fJ T N R s).2.2.1])/\bA w' w.heap.size lv RL/\(RL.map fun x=>x.2)=(fJ T N R s).2.2.2/\Below w.heap.size w w':=by
 cases hm:aZ T N R with
 |false=>
  have e:fJ T N R s=(0,0,2,[]):=by unfold fJ;rw[hm];rfl
  rw[e];refine(abu hr hm s).mono ?_;rintro e w' ⟨rfl,hB⟩;exact⟨_,_,[],rfl,Gh _ _,rfl,hB⟩
 |true=>
  obtain⟨t,n,rfl,rfl⟩:=Ty hm;cases hs:aR n R s with
  |false=>
   have e:fJ t n R s=(0,0,2,[]):=by unfold fJ;rw[hm,hs];rfl
   rw[e];refine(abw hr hm s hs).mono ?_;rintro e w' ⟨rfl,hB⟩;exact⟨_,_,[],rfl,Gh _ _,rfl,hB⟩
  |true=>
   cases hz:aZ t (gm n s:Nat) (aM n R s) with
   |false=>
    have e:fJ t n R s=(0,0,1,[]):=by unfold fJ;rw[hm,hs,Int.toNat_natCast,hz];rfl
    rw[e];refine(abx hr hm s hs hz).mono ?_;rintro e w' ⟨rfl,hB⟩;exact⟨_,_,[],rfl,Gh _ _,rfl,hB⟩
   |true=>
    have e:fJ t n R s=((t:Int),((gm n s:Nat):Int),0,aM n R s):=by unfold fJ;rw[hm,hs,Int.toNat_natCast,hz];rfl
    rw[e];refine(M8 hr hm s hs hz).mono ?_;rintro e w' ⟨cv,lv,RL,rfl,_,h2,h3,hB⟩;exact⟨cv,lv,RL,rfl,h2,h3,hB⟩
theorem abD{w:World}{T N:Int}{ra:Option Addr}{rc:Nat}{R:List Ru}(hr:aD w w.heap.size (.slice ra R.length rc) R)(s:Stp):
 Calls Tryz.prog 4 #[.agg #[.int .i64 T,.int .i64 N,.slice ra R.length rc],.agg #[.int .i64 s.op,.int .i64 s.a,.int .i64 s.b,.int .i64 s.c]] w fun e w'=> ∃lv RL,e= .returned (.tuple #[.agg #[.int .i64 (fJ T N R s).1,.int .i64 (fJ T N R s).2.1,lv],.int .i64 (fJ T N R s).2.2.1])/\bA w' w.heap.size lv RL/\(RL.map fun x=>x.2)=(fJ T N R s).2.2.2/\Below w.heap.size w w':=by
 obtain⟨W0,hW0⟩:∃W,((w.alloc (.cells #[.int .i64 T,.int .i64 N,.slice ra R.length rc] 24)).alloc (.cells #[.int .i64 s.op,.int .i64 s.a,.int .i64 s.b,.int .i64 s.c] 26)).alloc (.cells #[.int .i64 0,.int .i64 0,.slice none 0 0] 24)=W:=⟨_,rfl⟩;have hT0:=EI (T:=T) (N:=N) (s:=s) hr;rw[hW0]at hT0;have HT:Hid (dw w T N ra rc R s W0):=hT0;have g0:=hT0.g0;have g1:=hT0.g1;have g2:=hT0.g2;have s0:=hT0.s0;have s1:=hT0.s1;have s2:=hT0.s2;have s3:=hT0.s3;have tk:=abC (T:=T) (N:=N) hT0.all s;obtain⟨⟨V,M,E,RR⟩,hV⟩:∃x,fJ T N R s=x:=⟨_,rfl⟩;rw[hV]at tk⊢;simp only at tk⊢;clear hr hT0 hV
 go_enter Tryz.func4,Tryz.ntmps4
 go_wp2_with
  (go_at_call 9;refine tk.mono ?_;rintro e w2 ⟨cv,lv,RL,rfl,hR2,hmap,hB2⟩
   obtain⟨la,lc,hlv⟩:=aY hR2.own;subst hlv;have hB3:Below W0.heap.size W0 (w2.alloc (.cells #[.int .i64 V,.int .i64 M,.slice la RL.length lc] 24)):=hB2.alloc hB2.size _;have fe:=HT.out.next hB3;have y0:=fe.y0;have y1:=fe.y1;have y2:=fe.y2;have eB:=fe.yf 0;have eD:=fe.yf 1;have Aq:=fe.yf 2;have HF:Hid (dw w T N ra rc R s (w2.alloc (.cells #[.int .i64 V,.int .i64 M,.slice la RL.length lc] 24))/\bA (w2.alloc (.cells #[.int .i64 V,.int .i64 M,.slice la RL.length lc] 24)) W0.heap.size (.slice la RL.length lc) RL/\(RL.map fun x=>x.2)=RR):=⟨fe,hR2.below ((Below.refl _ _).alloc (Nat.le_refl _) _),hmap⟩
   clear tk hR2 hmap hB2 hB3 fe g0 g1 g2 s0 s1 s2 s3 hW0)
 have q0:=tX (v0:= .int .i64 V) (v1:= .int .i64 M) (v2:= .slice la RL.length lc) y0;have q1:=tY (v0:= .int .i64 V) (v1:= .int .i64 M) (v2:= .slice la RL.length lc) y1;have q2:=tZ (v0:= .int .i64 V) (v1:= .int .i64 M) (v2:= .slice la RL.length lc) y2;refine bodyPost_ret (v:= .tuple #[.agg #[.int .i64 V,.int .i64 M,.slice la RL.length lc],.int .i64 E]) (by simp[results,Tryz.results4,go_sem,q0,q1,q2]) rfl ?_;have hlo:=HT.out.size;exact⟨_,RL,rfl,(((HF.out.2.1.oV (by simp only;omega) _).oV (by simp only;omega) _).oV (by simp only;omega) _).mono (by omega),HF.out.2.2,HF.out.1.set _ _ _⟩
structure gI(w:World)(T N:Int)(ra:Option Addr)(rc:Nat)(R:List Ru)(s:Stp)(tv:Value)(tok:List Int)(wq:World):Prop where
 g:wq.heap[w.heap.size]?=some (.cells #[.int .i64 T,.int .i64 N,.slice ra R.length rc] 24 (0,0))
 s:wq.heap[w.heap.size+1]?=some (.cells #[.int .i64 s.op,.int .i64 s.a,.int .i64 s.b,.int .i64 s.c] 26 (0,0))
 rules:aD wq w.heap.size (.slice ra R.length rc) R
 toks:aH wq w.heap.size tv tok
 below:Below w.heap.size w wq
section
variable{w wq w':World}{T N:Int}{ra:Option Addr}{rc:Nat}{R:List Ru}{s:Stp}{tv:Value}{tok:List Int}
theorem gI.size(h:gI w T N ra rc R s tv tok wq):w.heap.size+2<=wq.heap.size:=by
 have:=(Array.getElem?_eq_some_iff.1 h.s).1;omega
theorem gI.next(h:gI w T N ra rc R s tv tok wq)(hb:Below wq.heap.size wq w'):gI w T N ra rc R s tv tok w':=by
 have hz:=h.size;exact⟨(hb.block _ (by omega)).trans h.g,(hb.block _ (by omega)).trans h.s,h.rules.below (hb.mono (by omega)),h.toks.below (hb.mono (by omega)),h.below.trans (hb.mono (by omega))⟩
theorem gI.all(h:gI w T N ra rc R s tv tok wq):aD wq wq.heap.size (.slice ra R.length rc) R:=h.rules.mono h.below.size
theorem gI.allT(h:gI w T N ra rc R s tv tok wq):aH wq wq.heap.size tv tok:=h.toks.mono h.below.size
theorem gI.g0(h:gI w T N ra rc R s tv tok wq):wq.cell? ⟨w.heap.size,0,none⟩=some (.int .i64 T):=ah h.g rfl
theorem gI.g1(h:gI w T N ra rc R s tv tok wq):wq.cell? ⟨w.heap.size,1,none⟩=some (.int .i64 N):=ah h.g rfl
theorem gI.g2(h:gI w T N ra rc R s tv tok wq):wq.cell? ⟨w.heap.size,2,none⟩=some (.slice ra R.length rc):=ah h.g rfl
theorem gI.s0(h:gI w T N ra rc R s tv tok wq):wq.cell? ⟨w.heap.size+1,0,none⟩=some (.int .i64 s.op):=ah h.s rfl
theorem gI.s1(h:gI w T N ra rc R s tv tok wq):wq.cell? ⟨w.heap.size+1,1,none⟩=some (.int .i64 s.a):=ah h.s rfl
theorem gI.s2(h:gI w T N ra rc R s tv tok wq):wq.cell? ⟨w.heap.size+1,2,none⟩=some (.int .i64 s.b):=ah h.s rfl
theorem gI.s3(h:gI w T N ra rc R s tv tok wq):wq.cell? ⟨w.heap.size+1,3,none⟩=some (.int .i64 s.c):=ah h.s rfl
theorem EN(hr:aD w w.heap.size (.slice ra R.length rc) R)(ht:aH w w.heap.size tv tok):gI w T N ra rc R s tv tok ((w.alloc (.cells #[.int .i64 T,.int .i64 N,.slice ra R.length rc] 24)).alloc (.cells #[.int .i64 s.op,.int .i64 s.a,.int .i64 s.b,.int .i64 s.c] 26)):=by
 obtain⟨w1,hw1⟩:∃W,w.alloc (.cells #[.int .i64 T,.int .i64 N,.slice ra R.length rc] 24)=W:=⟨_,rfl⟩;have b1:Below w.heap.size w w1:=by rw[<-hw1];exact(Below.refl _ _).alloc (Nat.le_refl _) _
 have z1:w1.heap.size=w.heap.size+1:=by rw[<-hw1];simp
 have c1:w1.heap[w.heap.size]?=some (.cells #[.int .i64 T,.int .i64 N,.slice ra R.length rc] 24 (0,0)):=by rw[<-hw1];exact heap_alloc_new _ _
 rw[hw1];obtain⟨w2,hw2⟩:∃W,w1.alloc (.cells #[.int .i64 s.op,.int .i64 s.a,.int .i64 s.b,.int .i64 s.c] 26)=W:=⟨_,rfl⟩;have b2:Below w1.heap.size w1 w2:=by rw[<-hw2];exact(Below.refl _ _).alloc (Nat.le_refl _) _
 have c2:w2.heap[w1.heap.size]?=some (.cells #[.int .i64 s.op,.int .i64 s.a,.int .i64 s.b,.int .i64 s.c] 26 (0,0)):=by rw[<-hw2];exact heap_alloc_new _ _
 rw[hw2];rw[z1]at c2;have hB:Below w.heap.size w w2:=b1.trans (b2.mono b1.size);exact⟨(b2.block _ (by omega)).trans c1,c2,hr.below hB,ht.below hB,hB⟩
end
structure iD(V M:Int)(la:Option Addr)(lc:Nat)(RR:List Ru)(b:Nat)(wq:World):Prop where
 blk:wq.heap[b]?=some (.cells #[.int .i64 V,.int .i64 M,.slice la RR.length lc] 24 (0,0))
 rules:aD wq wq.heap.size (.slice la RR.length lc) RR
section
variable{V M:Int}{la:Option Addr}{lc:Nat}{RR:List Ru}{b:Nat}{wq w':World}
theorem iD.next(h:iD V M la lc RR b wq)(hb:Below wq.heap.size wq w'):iD V M la lc RR b w':=
 ⟨(hb.block _ (Array.getElem?_eq_some_iff.1 h.blk).1).trans h.blk,(h.rules.below hb).mono hb.size⟩
theorem iD.c0(h:iD V M la lc RR b wq):wq.cell? ⟨b,0,none⟩=some (.int .i64 V):=ah h.blk rfl
theorem iD.c1(h:iD V M la lc RR b wq):wq.cell? ⟨b,1,none⟩=some (.int .i64 M):=ah h.blk rfl
theorem iD.c2(h:iD V M la lc RR b wq):wq.cell? ⟨b,2,none⟩=some (.slice la RR.length lc):=ah h.blk rfl
theorem BD(h:aD wq wq.heap.size (.slice la RR.length lc) RR):iD V M la lc RR wq.heap.size (wq.alloc (.cells #[.int .i64 V,.int .i64 M,.slice la RR.length lc] 24)):=⟨heap_alloc_new _ _,h.boxed _⟩
end
end Go.Proofs.YtpkmpkphfflpjaaGreat
