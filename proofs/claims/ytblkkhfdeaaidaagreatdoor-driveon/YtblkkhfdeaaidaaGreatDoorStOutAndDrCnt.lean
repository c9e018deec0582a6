import Derived.Test.YtblkkhfdeaaidaaGreatDoorStOfPAndStSwap
import Derived.Test.YtblkkhfdeaaidaaGreatDoorStOutSAndStRl
import Derived.Test.YtblkkhfdeaaidaaGreatDoorStOutIAndStOutL
import Derived.Test.YtblkkhfdeaaidaaGreatDoorTxRlsAndMayG
import Derived.Test.YtblkkhfdeaaidaaGreatDoorTxPaAndLfp
import Derived.Test.YtblkkhfdeaaidaaGreatDoorShortMathAndTxPut
import Derived.Test.YtblkkhfdeaaidaaGreatDoorChartOfAndSpreadMath
set_option maxHeartbeats 3200000
set_option maxRecDepth 100000
namespace Go.Proofs.YtblkkhfdeaaidaaGreatDoor
open Go.RowKit
theorem Wx{IX:List Nat}{k:Nat}(hk:k<IX.length):(IX.map fun(n:Nat)=>(n:Int)).getD k 0=((IX.getD k 0:Nat):Int):=by simp[List.getD,hk]
section
variable{w:World}{T N:Nat}{ra:Option Addr}{rc:Nat}{R:List Ru}{s:Stp}{cv:Value}
theorem Wz{B:Nat}(hc:fU w B T N ra rc R s cv)(hr:au w w.heap.size (.slice ra R.length rc) R)(hm:aD T N R=true)(hs:aX N R s=true):
 ∃ty v fn,cv= .iface ty v/\(∀n w',(method (n+1) ty v "pollarding/step.outcome").run Tryz.prog w'= .ok (fn,v) w')/\(∀args w',(callFunc fn args).run Tryz.prog w'= .ok (.enter fn args) w')/\
  Calls Tryz.prog fn #[v] w fun e w'=> ∃lv RL,e= .returned (.agg #[.int .i64 T,.int .i64 (kT N s:Nat),lv])/\aM w' w.heap.size lv RL/\(RL.map fun x=>x.2)=gy N R s/\Below w.heap.size w w':=by
 obtain⟨hT,hN1,hN,hRl,h5⟩:=fV hm;have hl2:∀q,q<R.length->(R.getD q (0,[])).2.length<=1000:=fun q hq=>by have:=(h5 q hq).2.2.1;omega
 obtain⟨op,a,b,c⟩:=s;by_cases h1:op=1
 ·subst h1
  refine⟨_,_,223,hc.swap rfl,fun n w'=>by kernel_rfl,fun args w'=>by simp[callFunc,Tryz.func223,Tryz.f223 ],?_⟩;refine(aeO hr (by omega) hl2).mono ?_;rintro e w' ⟨lv,RL,rfl,h1,h2,h3⟩;exact⟨lv,RL,rfl,h1,by rw[h2];exact aeP,h3⟩
 by_cases h2:op=2
 ·subst h2
  have hst:(0<=a/\a<(R.length:Int)/\0<=b/\b<c/\c<=((R.getD a.toNat (0,[])).2.length:Int)):=by
   unfold aX at hs;simp only at hs;rw[if_neg (by decide),if_pos trivial]at hs;simp only[Bool.and_eq_true,decide_eq_true_eq]at hs;exact⟨hs.1.1.1.1,hs.1.1.1.2,hs.1.1.2,hs.1.2,hs.2⟩
  refine⟨_,_,231,hc.extract rfl,fun n w'=>by kernel_rfl,fun args w'=>by simp[callFunc,Tryz.func231,Tryz.f231 ],?_⟩;obtain⟨ka,rfl⟩:∃x:Nat,a=x:=⟨a.toNat,by omega⟩;obtain⟨bn,rfl⟩:∃x:Nat,b=x:=⟨b.toNat,by omega⟩;obtain⟨cn,rfl⟩:∃x:Nat,c=x:=⟨c.toNat,by omega⟩;simp only[Int.toNat_natCast]at hst;obtain⟨⟨L,l⟩,hx⟩:∃x,R.getD ka (0,[])=x:=⟨_,rfl⟩;rw[hx]at hst;simp only at hst;refine(aeV (m:=l.length-cn) hr (by omega) hl2 (by omega) (by omega) hx (by omega) (by omega)).mono ?_;rintro e w' ⟨lv,RL,rfl,h1,h2,h3⟩;exact⟨lv,RL,rfl,h1,by rw[h2];exact aeR hx,h3⟩
 by_cases h3:op=3
 ·subst h3
  have hst:(0<=a/\a<(R.length:Int)/\0<=b/\b<((R.getD a.toNat (0,[])).2.length:Int)/\c=0/\((R.getD a.toNat (0,[])).2.getD b.toNat (false,0)).1=false):=by
   unfold aX at hs;simp only at hs;rw[if_neg (by decide),if_neg (by decide),if_pos trivial]at hs;simp only[Bool.and_eq_true,decide_eq_true_eq,Bool.not_eq_true',decide_eq_false_iff_not]at hs;obtain⟨⟨⟨⟨⟨⟨h1,h2⟩,h3⟩,h4⟩,h5⟩,h6⟩,h7⟩:=hs;exact⟨h1,h2,h3,h4,h5,h6⟩
  obtain⟨ov,hcv,hLo⟩:=hc.inline rfl;have hL:=VH hLo;obtain⟨oa,oc,hov⟩:=hL.1;subst hov;clear hLo;refine⟨_,_,237,hcv,fun n w'=>by kernel_rfl,fun args w'=>by simp[callFunc,Tryz.func237,Tryz.f237 ],?_⟩;obtain⟨ka,rfl⟩:∃x:Nat,a=x:=⟨a.toNat,by omega⟩;obtain⟨bn,rfl⟩:∃x:Nat,b=x:=⟨b.toNat,by omega⟩;obtain⟨rfl⟩:c=0:=hst.2.2.2.2.1;simp only[Int.toNat_natCast]at hst;obtain⟨⟨L,l⟩,hx⟩:∃x,R.getD ka (0,[])=x:=⟨_,rfl⟩;rw[hx]at hst;simp only at hst;obtain⟨⟨t,X⟩,hX⟩:∃x,l.getD bn (false,0)=x:=⟨_,rfl⟩;rw[hX]at hst;obtain⟨rfl⟩:t=false:=hst.2.2.2.2.2
  have hix:ES R ⟨3,ka,bn,0⟩=aY (fun k=>decide ((R.getD k (0,[])).1=X)) R.length:=by
   unfold ES yh;simp only[Int.toNat_natCast,hx,hX]
  rw[hix]at hL⊢;refine(ae3 (m:=l.length-(bn+1)) hr (by omega) hl2 (by omega) hx (by omega) hL (fun k hk=> ?_) (by have:=IU (fun k=>decide ((R.getD k (0,[])).1=X)) R.length;rw[List.length_map];omega)).mono ?_
  ·have hk':k<(aY (fun k=>decide ((R.getD k (0,[])).1=X)) R.length).length:=by simpa using hk
   have hlt:=VG hk';rw[Wx hk'];omega
  ·rintro e w' ⟨lv,RL,rfl,h1,h2,h3⟩
   exact⟨lv,RL,rfl,h1,by rw[h2];exact aeU (by omega) hx hX,h3⟩
 by_cases h4:op=4
 ·subst h4
  have h0:0<R.length:=by
   unfold aX at hs;simp only at hs;rw[if_neg (by decide),if_neg (by decide),if_neg (by decide),if_pos trivial]at hs;simp only[Bool.and_eq_true,pW,List.any_eq_true]at hs;obtain⟨_,⟨r,hr,_⟩,_⟩:=hs;exact List.length_pos_of_mem hr
  refine⟨_,_,242,hc.left rfl,fun n w'=>by kernel_rfl,fun args w'=>by simp[callFunc,Tryz.func242,Tryz.f242 ],?_⟩;refine(ae7 hr h0 (by omega) hl2 (by omega)).mono ?_;rintro e w' ⟨lv,RL,rfl,h1,h2,h3⟩;exact⟨lv,RL,rfl,h1,by rw[h2];exact aeQ,h3⟩
 by_cases h5:op=5
 ·subst h5
  obtain⟨ov,hcv,hLo⟩:=hc.Jc rfl;have hL:=VH hLo;obtain⟨oa,oc,hov⟩:=hL.1;subst hov;clear hLo;refine⟨_,_,245,hcv,fun n w'=>by kernel_rfl,fun args w'=>by simp[callFunc,Tryz.func245,Tryz.f245 ],?_⟩;refine(adR hr hl2 hL (fun k hk=> ?_) (by have:=IU (fun k=>qK N R (R.getD k (0,[]))) R.length;rw[List.length_map];omega)).mono ?_
  ·have hk':k<(aY (fun k=>qK N R (R.getD k (0,[]))) R.length).length:=by simpa using hk
   have hlt:=VG hk';rw[Wx hk'];omega
  ·rintro e w' ⟨lv,RL,rfl,h1,h2,h3⟩
   exact⟨lv,RL,rfl,h1,by rw[h2];exact aeS,h3⟩
 ·exfalso
  unfold aX at hs;simp[h1,h2,h3,h4,h5]at hs
end
structure bO(w:World)(T N:Int)(ra:Option Addr)(rc:Nat)(R:List Ru)(s:Stp)(wq:World):Prop where
 g:wq.heap[w.heap.size]?=some (.cells #[.int .i64 T,.int .i64 N,.slice ra R.length rc] 26 (0,0))
 s:wq.heap[w.heap.size+1]?=some (.cells #[.int .i64 s.op,.int .i64 s.a,.int .i64 s.b,.int .i64 s.c] 77 (0,0))
 r:wq.heap[w.heap.size+2]?=some (.cells #[.int .i64 0,.int .i64 0,.slice none 0 0] 26 (0,0))
 rules:au wq w.heap.size (.slice ra R.length rc) R
 below:Below w.heap.size w wq
section
variable{w wq w':World}{T N:Int}{ra:Option Addr}{rc:Nat}{R:List Ru}{s:Stp}
theorem bO.size(h:bO w T N ra rc R s wq):w.heap.size+3<=wq.heap.size:=by
 have:=(Array.getElem?_eq_some_iff.1 h.r).1;omega
theorem bO.next(h:bO w T N ra rc R s wq)(hb:Below wq.heap.size wq w'):bO w T N ra rc R s w':=by
 have hz:=h.size;exact⟨(hb.block _ (by omega)).trans h.g,(hb.block _ (by omega)).trans h.s,(hb.block _ (by omega)).trans h.r,h.rules.below (hb.mono (by omega)),h.below.trans (hb.mono (by omega))⟩
theorem bO.all(h:bO w T N ra rc R s wq):au wq wq.heap.size (.slice ra R.length rc) R:=h.rules.mono h.below.size
theorem bO.g0(h:bO w T N ra rc R s wq):wq.cell? ⟨w.heap.size,0,none⟩=some (.int .i64 T):=aB h.g rfl
theorem bO.g1(h:bO w T N ra rc R s wq):wq.cell? ⟨w.heap.size,1,none⟩=some (.int .i64 N):=aB h.g rfl
theorem bO.g2(h:bO w T N ra rc R s wq):wq.cell? ⟨w.heap.size,2,none⟩=some (.slice ra R.length rc):=aB h.g rfl
theorem bO.s0(h:bO w T N ra rc R s wq):wq.cell? ⟨w.heap.size+1,0,none⟩=some (.int .i64 s.op):=aB h.s rfl
theorem bO.s1(h:bO w T N ra rc R s wq):wq.cell? ⟨w.heap.size+1,1,none⟩=some (.int .i64 s.a):=aB h.s rfl
theorem bO.s2(h:bO w T N ra rc R s wq):wq.cell? ⟨w.heap.size+1,2,none⟩=some (.int .i64 s.b):=aB h.s rfl
theorem bO.s3(h:bO w T N ra rc R s wq):wq.cell? ⟨w.heap.size+1,3,none⟩=some (.int .i64 s.c):=aB h.s rfl
theorem bO.y0(h:bO w T N ra rc R s wq):wq.cell? ⟨w.heap.size+2,0,none⟩=some (.int .i64 0):=aB h.r rfl
theorem bO.y1(h:bO w T N ra rc R s wq):wq.cell? ⟨w.heap.size+2,1,none⟩=some (.int .i64 0):=aB h.r rfl
theorem bO.y2(h:bO w T N ra rc R s wq):wq.cell? ⟨w.heap.size+2,2,none⟩=some (.slice none 0 0):=aB h.r rfl
theorem bO.yf(h:bO w T N ra rc R s wq)(o:Nat):wq.frozen? ⟨w.heap.size+2,o,none⟩=false:=MS h.r
theorem bO.set(h:bO w T N ra rc R s wq)(v0 v1 v2:Value):Below w.heap.size w (((wq.setCell ⟨w.heap.size+2,0,none⟩ v0).setCell ⟨w.heap.size+2,1,none⟩ v1).setCell ⟨w.heap.size+2,2,none⟩ v2):=
 ((h.below.setCell (by simp) _).setCell (by simp) _).setCell (by simp) _
theorem E9(hr:au w w.heap.size (.slice ra R.length rc) R):bO w T N ra rc R s (((w.alloc (.cells #[.int .i64 T,.int .i64 N,.slice ra R.length rc] 26)).alloc (.cells #[.int .i64 s.op,.int .i64 s.a,.int .i64 s.b,.int .i64 s.c] 77)).alloc (.cells #[.int .i64 0,.int .i64 0,.slice none 0 0] 26)):=by
 obtain⟨w1,hw1⟩:∃W,w.alloc (.cells #[.int .i64 T,.int .i64 N,.slice ra R.length rc] 26)=W:=⟨_,rfl⟩;have b1:Below w.heap.size w w1:=by rw[<-hw1];exact(Below.refl _ _).alloc (Nat.le_refl _) _
 have z1:w1.heap.size=w.heap.size+1:=by rw[<-hw1];simp
 have c1:w1.heap[w.heap.size]?=some (.cells #[.int .i64 T,.int .i64 N,.slice ra R.length rc] 26 (0,0)):=by rw[<-hw1];exact heap_alloc_new _ _
 rw[hw1];obtain⟨w2,hw2⟩:∃W,w1.alloc (.cells #[.int .i64 s.op,.int .i64 s.a,.int .i64 s.b,.int .i64 s.c] 77)=W:=⟨_,rfl⟩;have b2:Below w1.heap.size w1 w2:=by rw[<-hw2];exact(Below.refl _ _).alloc (Nat.le_refl _) _
 have z2:w2.heap.size=w.heap.size+2:=by rw[<-hw2];simp[z1]
 have c2:w2.heap[w1.heap.size]?=some (.cells #[.int .i64 s.op,.int .i64 s.a,.int .i64 s.b,.int .i64 s.c] 77 (0,0)):=by rw[<-hw2];exact heap_alloc_new _ _
 rw[hw2];obtain⟨w3,hw3⟩:∃W,w2.alloc (.cells #[.int .i64 0,.int .i64 0,.slice none 0 0] 26)=W:=⟨_,rfl⟩;have b3:Below w2.heap.size w2 w3:=by rw[<-hw3];exact(Below.refl _ _).alloc (Nat.le_refl _) _
 have c3:w3.heap[w2.heap.size]?=some (.cells #[.int .i64 0,.int .i64 0,.slice none 0 0] 26 (0,0)):=by rw[<-hw3];exact heap_alloc_new _ _
 rw[hw3];rw[z1]at c2;rw[z2]at c3;have hB:Below w.heap.size w w3:=b1.trans ((b2.mono b1.size).trans (b3.mono (by omega)));exact⟨(b3.block _ (by omega)).trans ((b2.block _ (by omega)).trans c1),(b3.block _ (by omega)).trans c2,c3,hr.below hB,hB⟩
end
theorem ae9{w:World}{T N:Int}{ra:Option Addr}{rc:Nat}{R:List Ru}(hr:au w w.heap.size (.slice ra R.length rc) R)(hm:aD T N R=false)(s:Stp):
 Calls Tryz.prog 93 #[.agg #[.int .i64 T,.int .i64 N,.slice ra R.length rc],.agg #[.int .i64 s.op,.int .i64 s.a,.int .i64 s.b,.int .i64 s.c]] w fun e w'=>e= .returned (.tuple #[.nilIface,.agg #[.int .i64 0,.int .i64 0,.slice none 0 0],.int .i64 2])/\Below w.heap.size w w':=by
 obtain⟨W0,hW0⟩:∃W,((w.alloc (.cells #[.int .i64 T,.int .i64 N,.slice ra R.length rc] 26)).alloc (.cells #[.int .i64 s.op,.int .i64 s.a,.int .i64 s.b,.int .i64 s.c] 77)).alloc (.cells #[.int .i64 0,.int .i64 0,.slice none 0 0] 26)=W:=⟨_,rfl⟩;have hT0:=E9 (T:=T) (N:=N) (s:=s) hr;rw[hW0]at hT0;have HT:Hid (bO w T N ra rc R s W0):=hT0;have may:=lm (w:=W0) (T:=T) (N:=N) hT0.all;rw[hm]at may;have g0:=hT0.g0;have g1:=hT0.g1;have g2:=hT0.g2;clear hr hm hT0
 go_enter Tryz.func93,Tryz.ntmps93
 go_wp2_with
  (go_at_call 49;refine may.mono ?_;rintro e w2 ⟨rfl,hB2⟩
   have dZ:=HT.out.next hB2;have y0:=dZ.y0;have y1:=dZ.y1;have y2:=dZ.y2;have BK:=dZ.yf 0;have BL:=dZ.yf 1;have BM:=dZ.yf 2;have Fa:Hid (bO w T N ra rc R s w2):=dZ
   clear dZ hB2 may)
 have q0:=uq (v0:= .int .i64 0) (v1:= .int .i64 0) (v2:= .slice none 0 0) y0;have q1:=uw (v0:= .int .i64 0) (v1:= .int .i64 0) (v2:= .slice none 0 0) y1;have q2:=uy (v0:= .int .i64 0) (v1:= .int .i64 0) (v2:= .slice none 0 0) y2;refine bodyPost_ret (v:= .tuple #[.nilIface,.agg #[.int .i64 0,.int .i64 0,.slice none 0 0],.int .i64 2]) (by simp[results,Tryz.results93,go_sem,q0,q1,q2]) rfl ?_;exact⟨rfl,Fa.out.set _ _ _⟩
theorem afa{w:World}{T N:Nat}{ra:Option Addr}{rc:Nat}{R:List Ru}(hr:au w w.heap.size (.slice ra R.length rc) R)(hm:aD T N R=true)(s:Stp)(hs:aX N R s=false):
 Calls Tryz.prog 93 #[.agg #[.int .i64 T,.int .i64 N,.slice ra R.length rc],.agg #[.int .i64 s.op,.int .i64 s.a,.int .i64 s.b,.int .i64 s.c]] w fun e w'=>e= .returned (.tuple #[.nilIface,.agg #[.int .i64 0,.int .i64 0,.slice none 0 0],.int .i64 2])/\Below w.heap.size w w':=by
 obtain⟨W0,hW0⟩:∃W,((w.alloc (.cells #[.int .i64 T,.int .i64 N,.slice ra R.length rc] 26)).alloc (.cells #[.int .i64 s.op,.int .i64 s.a,.int .i64 s.b,.int .i64 s.c] 77)).alloc (.cells #[.int .i64 0,.int .i64 0,.slice none 0 0] 26)=W:=⟨_,rfl⟩;have hT0:=E9 (T:=T) (N:=N) (s:=s) hr;rw[hW0]at hT0;have HT:Hid (bO w T N ra rc R s W0):=hT0;have may:=lm (w:=W0) (T:=T) (N:=N) hT0.all;rw[hm]at may;have g0:=hT0.g0;have g1:=hT0.g1;have g2:=hT0.g2;have uF:Hid (aD T N R=true):=hm;have HS:Hid (aX N R s=false):=hs;clear hr hm hT0 hs
 go_enter Tryz.func93,Tryz.ntmps93
 go_wp2_with
  (first
   |(go_at_call 49;refine may.mono ?_;rintro e w2 ⟨rfl,hB2⟩
     have fe:=HT.out.next hB2;have v0:=fe.g0;have v1:=fe.g1;have v2:=fe.g2;have v3:=fe.s0;have v4:=fe.s1;have v5:=fe.s2;have v6:=fe.s3;have HT2:Hid (bO w T N ra rc R s w2):=fe;have ch:=Ng fe.all uF.out s;rw[HS.out]at ch
     clear may hB2 fe g0 g1 g2 hW0)
   |(go_at_call 122;refine ch.mono ?_;rintro e w3 ⟨cv,rfl,_,hB3⟩
     have dZ:=HT2.out.next hB3;have y0:=dZ.y0;have y1:=dZ.y1;have y2:=dZ.y2;have BK:=dZ.yf 0;have BL:=dZ.yf 1;have BM:=dZ.yf 2;have Fa:Hid (bO w T N ra rc R s w3):=dZ
     clear ch dZ hB3 v0 v1 v2 v3 v4 v5 v6))
 have q0:=uq (v0:= .int .i64 0) (v1:= .int .i64 0) (v2:= .slice none 0 0) y0;have q1:=uw (v0:= .int .i64 0) (v1:= .int .i64 0) (v2:= .slice none 0 0) y1;have q2:=uy (v0:= .int .i64 0) (v1:= .int .i64 0) (v2:= .slice none 0 0) y2;refine bodyPost_ret (v:= .tuple #[.nilIface,.agg #[.int .i64 0,.int .i64 0,.slice none 0 0],.int .i64 2]) (by simp[results,Tryz.results93,go_sem,q0,q1,q2]) rfl ?_;exact⟨rfl,Fa.out.set _ _ _⟩
theorem afb{w:World}{T N:Nat}{ra:Option Addr}{rc:Nat}{R:List Ru}(hr:au w w.heap.size (.slice ra R.length rc) R)(hm:aD T N R=true)(s:Stp)(hs:aX N R s=true)(hz:aD T (kT N s:Nat) (gy N R s)=false):
 Calls Tryz.prog 93 #[.agg #[.int .i64 T,.int .i64 N,.slice ra R.length rc],.agg #[.int .i64 s.op,.int .i64 s.a,.int .i64 s.b,.int .i64 s.c]] w fun e w'=>e= .returned (.tuple #[.nilIface,.agg #[.int .i64 0,.int .i64 0,.slice none 0 0],.int .i64 1])/\Below w.heap.size w w':=by
 obtain⟨W0,hW0⟩:∃W,((w.alloc (.cells #[.int .i64 T,.int .i64 N,.slice ra R.length rc] 26)).alloc (.cells #[.int .i64 s.op,.int .i64 s.a,.int .i64 s.b,.int .i64 s.c] 77)).alloc (.cells #[.int .i64 0,.int .i64 0,.slice none 0 0] 26)=W:=⟨_,rfl⟩;have hT0:=E9 (T:=T) (N:=N) (s:=s) hr;rw[hW0]at hT0;have HT:Hid (bO w T N ra rc R s W0):=hT0;have may:=lm (w:=W0) (T:=T) (N:=N) hT0.all;rw[hm]at may;have g0:=hT0.g0;have g1:=hT0.g1;have g2:=hT0.g2;have uF:Hid (aD T N R=true):=hm;have HS:Hid (aX N R s=true):=hs;have HZ:Hid (aD T (kT N s:Nat) (gy N R s)=false):=hz;obtain⟨M,hM⟩:∃M,kT N s=M:=⟨_,rfl⟩;rw[hM]at HZ;have HM:Hid (kT N s=M):=hM;clear hr hm hT0 hs hz hM
 go_enter Tryz.func93,Tryz.ntmps93
 go_wp2_with
  (first
   |(go_at_call 49;refine may.mono ?_;rintro e w2 ⟨rfl,hB2⟩
     have fe:=HT.out.next hB2;have v0:=fe.g0;have v1:=fe.g1;have v2:=fe.g2;have v3:=fe.s0;have v4:=fe.s1;have v5:=fe.s2;have v6:=fe.s3;have HT2:Hid (bO w T N ra rc R s w2):=fe;have ch:=Ng fe.all uF.out s;rw[HS.out]at ch
     clear may hB2 fe g0 g1 g2 hW0)
   |(go_at_call 122;refine ch.mono ?_;rintro e w3 ⟨cv,rfl,hcv,hB3⟩
     have zL:=HT2.out.next hB3;obtain⟨ty,v,fn,hcf,hme,hfn,out⟩:=Wz (by first|exact hcv rfl|exact hcv trivial) zL.all uF.out HS.out;rw[HM.out]at out;subst hcf;have HT3:Hid (bO w T N ra rc R s w3):=zL;have Fb:=(by first|exact hcv rfl|exact hcv trivial:fU w3 w2.heap.size T N ra rc R s (.iface ty v));have Ey:Hid (fU w3 w2.heap.size T N ra rc R s (.iface ty v)):=Fb
     clear ch zL hB3 hcv Fb v0 v1 v2 v3 v4 v5 v6)
   |(refine out.mono ?_;rintro e w4 ⟨lv,RL,rfl,Fe,hmap,hB4⟩
     have ak:Below w3.heap.size w3 (w4.alloc (.cells #[.int .i64 T,.int .i64 M,lv] 26)):=hB4.alloc hB4.size _;have qh:=Fe.below ((Below.refl _ _).alloc (Nat.le_refl _) (.cells #[.int .i64 T,.int .i64 M,lv] 26));have lS:=HT3.out.next ak;have hb5:=heap_alloc_new w4 (.cells #[.int .i64 T,.int .i64 M,lv] 26);have qP:Hid (aM (w4.alloc (.cells #[.int .i64 T,.int .i64 M,lv] 26)) w3.heap.size lv RL/\(RL.map fun x=>x.2)=gy N R s/\bO w T N ra rc R s (w4.alloc (.cells #[.int .i64 T,.int .i64 M,lv] 26))/\(w4.alloc (.cells #[.int .i64 T,.int .i64 M,lv] 26)).heap[w4.heap.size]?=some (.cells #[.int .i64 T,.int .i64 M,lv] 26 (0,0))/\fU (w4.alloc (.cells #[.int .i64 T,.int .i64 M,lv] 26)) w2.heap.size T N ra rc R s (.iface ty v)/\w3.heap.size<=w4.heap.size):=⟨qh,hmap,lS,hb5,Ey.out.next ak,hB4.size⟩;obtain⟨la,lc,hlv⟩:=bK qh.own;subst hlv;have zM:=lm (w:=w4.alloc (.cells #[.int .i64 T,.int .i64 M,.slice la RL.length lc] 26)) (T:=T) (N:=M) qh.rules;rw[hmap,HZ.out]at zM
     clear out Fe hmap hB4 ak qh lS hb5 hme hfn)
   |(go_at_call 49;refine zM.mono ?_;rintro e w6 ⟨rfl,aQ⟩
     have dZ:=qP.out.2.2.1.next aQ;have y0:=dZ.y0;have y1:=dZ.y1;have y2:=dZ.y2;have BK:=dZ.yf 0;have BL:=dZ.yf 1;have BM:=dZ.yf 2;have Fa:Hid (bO w T N ra rc R s w6):=dZ
     clear zM dZ aQ))
 have q0:=uq (v0:= .int .i64 0) (v1:= .int .i64 0) (v2:= .slice none 0 0) y0;have q1:=uw (v0:= .int .i64 0) (v1:= .int .i64 0) (v2:= .slice none 0 0) y1;have q2:=uy (v0:= .int .i64 0) (v1:= .int .i64 0) (v2:= .slice none 0 0) y2;refine bodyPost_ret (v:= .tuple #[.nilIface,.agg #[.int .i64 0,.int .i64 0,.slice none 0 0],.int .i64 1]) (by simp[results,Tryz.results93,go_sem,q0,q1,q2]) rfl ?_;exact⟨rfl,Fa.out.set _ _ _⟩
theorem afc{w:World}{T N:Nat}{ra:Option Addr}{rc:Nat}{R:List Ru}(hr:au w w.heap.size (.slice ra R.length rc) R)(hm:aD T N R=true)(s:Stp)(hs:aX N R s=true)(hz:aD T (kT N s:Nat) (gy N R s)=true):
 Calls Tryz.prog 93 #[.agg #[.int .i64 T,.int .i64 N,.slice ra R.length rc],.agg #[.int .i64 s.op,.int .i64 s.a,.int .i64 s.b,.int .i64 s.c]] w fun e w'=> ∃cv lv RL,e= .returned (.tuple #[cv,.agg #[.int .i64 T,.int .i64 (kT N s:Nat),lv],.int .i64 0])/\fU w' w.heap.size T N ra rc R s cv/\aM w' w.heap.size lv RL/\(RL.map fun x=>x.2)=gy N R s/\Below w.heap.size w w':=by
 obtain⟨W0,hW0⟩:∃W,((w.alloc (.cells #[.int .i64 T,.int .i64 N,.slice ra R.length rc] 26)).alloc (.cells #[.int .i64 s.op,.int .i64 s.a,.int .i64 s.b,.int .i64 s.c] 77)).alloc (.cells #[.int .i64 0,.int .i64 0,.slice none 0 0] 26)=W:=⟨_,rfl⟩;have hT0:=E9 (T:=T) (N:=N) (s:=s) hr;rw[hW0]at hT0;have HT:Hid (bO w T N ra rc R s W0):=hT0;have may:=lm (w:=W0) (T:=T) (N:=N) hT0.all;rw[hm]at may;have g0:=hT0.g0;have g1:=hT0.g1;have g2:=hT0.g2;have uF:Hid (aD T N R=true):=hm;have HS:Hid (aX N R s=true):=hs;have HZ:Hid (aD T (kT N s:Nat) (gy N R s)=true):=hz;obtain⟨M,hM⟩:∃M,kT N s=M:=⟨_,rfl⟩;rw[hM]at HZ⊢;have HM:Hid (kT N s=M):=hM;clear hr hm hT0 hs hz hM
 go_enter Tryz.func93,Tryz.ntmps93
 go_wp2_with
  (first
   |(go_at_call 49;refine may.mono ?_;rintro e w2 ⟨rfl,hB2⟩
     have fe:=HT.out.next hB2;have v0:=fe.g0;have v1:=fe.g1;have v2:=fe.g2;have v3:=fe.s0;have v4:=fe.s1;have v5:=fe.s2;have v6:=fe.s3;have HT2:Hid (bO w T N ra rc R s w2):=fe;have ch:=Ng fe.all uF.out s;rw[HS.out]at ch
     clear may hB2 fe g0 g1 g2 hW0)
   |(go_at_call 122;refine ch.mono ?_;rintro e w3 ⟨cv,rfl,hcv,hB3⟩
     have zL:=HT2.out.next hB3;obtain⟨ty,v,fn,hcf,hme,hfn,out⟩:=Wz (by first|exact hcv rfl|exact hcv trivial) zL.all uF.out HS.out;rw[HM.out]at out;subst hcf;have HT3:Hid (bO w T N ra rc R s w3):=zL;have Fb:=(by first|exact hcv rfl|exact hcv trivial:fU w3 w2.heap.size T N ra rc R s (.iface ty v));have Ey:Hid (fU w3 w2.heap.size T N ra rc R s (.iface ty v)):=Fb
     clear ch zL hB3 hcv Fb v0 v1 v2 v3 v4 v5 v6)
   |(refine out.mono ?_;rintro e w4 ⟨lv,RL,rfl,Fe,hmap,hB4⟩
     have ak:Below w3.heap.size w3 (w4.alloc (.cells #[.int .i64 T,.int .i64 M,lv] 26)):=hB4.alloc hB4.size _;have qh:=Fe.below ((Below.refl _ _).alloc (Nat.le_refl _) (.cells #[.int .i64 T,.int .i64 M,lv] 26));have lS:=HT3.out.next ak;have hb5:=heap_alloc_new w4 (.cells #[.int .i64 T,.int .i64 M,lv] 26);have qP:Hid (aM (w4.alloc (.cells #[.int .i64 T,.int .i64 M,lv] 26)) w3.heap.size lv RL/\(RL.map fun x=>x.2)=gy N R s/\bO w T N ra rc R s (w4.alloc (.cells #[.int .i64 T,.int .i64 M,lv] 26))/\(w4.alloc (.cells #[.int .i64 T,.int .i64 M,lv] 26)).heap[w4.heap.size]?=some (.cells #[.int .i64 T,.int .i64 M,lv] 26 (0,0))/\fU (w4.alloc (.cells #[.int .i64 T,.int .i64 M,lv] 26)) w2.heap.size T N ra rc R s (.iface ty v)/\w3.heap.size<=w4.heap.size):=⟨qh,hmap,lS,hb5,Ey.out.next ak,hB4.size⟩;obtain⟨la,lc,hlv⟩:=bK qh.own;subst hlv;have zM:=lm (w:=w4.alloc (.cells #[.int .i64 T,.int .i64 M,.slice la RL.length lc] 26)) (T:=T) (N:=M) qh.rules;rw[hmap,HZ.out]at zM
     clear out Fe hmap hB4 ak qh lS hb5 hme hfn)
   |(go_at_call 49;refine zM.mono ?_;rintro e w6 ⟨rfl,aQ⟩
     have si:Hid (Below (w4.alloc (.cells #[.int .i64 T,.int .i64 M,.slice la RL.length lc] 26)).heap.size (w4.alloc (.cells #[.int .i64 T,.int .i64 M,.slice la RL.length lc] 26)) w6):=aQ
     clear zM aQ))
 have iw:=qP.out.2.2.1.next si.out;have BU:=qP.out.1.below si.out;have BZ:=qP.out.2.2.2.2.1.next si.out;have hlo2:w.heap.size+3<=w2.heap.size:=HT2.out.size;have af2:=qP.out.2.2.2.2.2;have Aa:=(si.out.block w4.heap.size (by simp)).trans qP.out.2.2.2.1;obtain⟨ob,WA⟩:∃x,w4.heap.size=x:=⟨_,rfl⟩;rw[WA]at Aa⊢;have AP:Hid ((RL.map fun x=>x.2)=gy N R s):=qP.out.2.1;have hlo:w.heap.size+3<=w3.heap.size:=HT3.out.size;obtain⟨Wd,hWd⟩:∃W,w6.drew=W:=⟨_,rfl⟩;have hBd:Below w6.heap.size w6 Wd:=by rw[<-hWd];exact(Below.refl _ _).drew
 have rT:=iw.next hBd;have cK:=BU.below hBd;have BS:=BZ.next hBd;have Jh:=(hBd.block ob (Array.getElem?_eq_some_iff.1 Aa).1).trans Aa;have y0:=rT.y0;have y1:=rT.y1;have y2:=rT.y2;have BK:=rT.yf 0;have BL:=rT.yf 1;have BM:=rT.yf 2;have o0:Wd.cell? ⟨ob,0,none⟩=some (.int .i64 T):=aB Jh rfl;have o1:Wd.cell? ⟨ob,1,none⟩=some (.int .i64 M):=aB Jh rfl;have o2:Wd.cell? ⟨ob,2,none⟩=some (.slice la RL.length lc):=aB Jh rfl;have HF:Hid (bO w T N ra rc R s Wd/\aM Wd w3.heap.size (.slice la RL.length lc) RL/\fU Wd w2.heap.size T N ra rc R s (.iface ty v)):=⟨rT,cK,BS⟩;have af3:w.heap.size+3<=ob:=by omega
 clear iw BU BZ Aa WA hBd rT cK BS Jh qP si;refine lY [0,1] 3 4 (fun wq=>wq.cell? ⟨ob,0,none⟩=some (.int .i64 T)/\wq.cell? ⟨ob,1,none⟩=some (.int .i64 M)/\wq.cell? ⟨ob,2,none⟩=some (.slice la RL.length lc)) (by kernel_rfl) (by kernel_rfl) (by rw[hWd];exact⟨o0,o1,o2⟩) ?_;rw[hWd];clear hWd
 iterate 2
  refine aO.vW (v:= ?_) rfl (by rfl) ?_ ?_;rotate_left
  ·intro w' hSw
   obtain⟨z0,z1,z2⟩:=hSw
   go_simp
   try with_reducible rfl
  simp only[Act.put,List.setIfInBounds_toArray,List.set_cons_zero,List.set_cons_succ]
 rw[aO];refine ax.one (i:=2) (by kernel_rfl) ⟨_,rfl,fun K hK=> ?_⟩
 go_simp
 refine hK.out _ _ (fun _=>⟨o0,o1,o2⟩) ?_;clear hK;refine ax.one (i:=3) (by kernel_rfl) ⟨_,rfl,fun K hK=> ?_⟩
 go_simp
 refine hK.out _ _ (fun _=>⟨?_,?_,?_⟩) ?_
 ·rw[iE (.inl (by simp only;omega)),iE (.inl (by simp only;omega)),iE (.inl (by simp only;omega))];exact o0
 ·rw[iE (.inl (by simp only;omega)),iE (.inl (by simp only;omega)),iE (.inl (by simp only;omega))];exact o1
 ·rw[iE (.inl (by simp only;omega)),iE (.inl (by simp only;omega)),iE (.inl (by simp only;omega))];exact o2
 clear hK;refine ax.last (i:=4) (by kernel_rfl) ⟨_,rfl,fun K hK=> ?_⟩
 go_simp
 refine hK.out _ _ (fun h=>absurd h (by omega)) (NoPanic.normal ?_);clear hK;have q0:=uq (v0:= .int .i64 T) (v1:= .int .i64 M) (v2:= .slice la RL.length lc) y0;have q1:=uw (v0:= .int .i64 T) (v1:= .int .i64 M) (v2:= .slice la RL.length lc) y1;have q2:=uy (v0:= .int .i64 T) (v1:= .int .i64 M) (v2:= .slice la RL.length lc) y2
 go_wp2_with fail
 refine bodyPost_ret (v:= .tuple #[.iface ty v,.agg #[.int .i64 T,.int .i64 M,.slice la RL.length lc],.int .i64 0]) (by simp[results,Tryz.results93,go_sem,q0,q1,q2]) rfl ?_;refine⟨_,_,RL,rfl,?_,?_,AP.out,HF.out.1.set _ _ _⟩
 ·exact(((HF.out.2.2.set (by simp only;omega) _).set (by simp only;omega) _).set (by simp only;omega) _).mono (by omega)
 ·exact(((HF.out.2.1.qL (by simp only;omega) _).qL (by simp only;omega) _).qL (by simp only;omega) _).mono (by omega)
def kG(T N:Int)(R:List Ru)(s:Stp):Int×Int×Int×List Ru:=
 if aD T N R&&aX N R s then (if aD T (kT N.toNat s:Nat) (gy N.toNat R s) then (T,(kT N.toNat s:Nat),0,gy N.toNat R s) else (0,0,1,[])) else (0,0,2,[])
theorem afd{T N:Int}{R:List Ru}(hm:aD T N R=true):∃t n:Nat,T=t/\N=n:=by
 simp only[aD,zW,Bool.and_eq_true,decide_eq_true_eq]at hm;exact⟨T.toNat,N.toNat,by omega,by omega⟩
theorem afe{w:World}{T N:Int}{ra:Option Addr}{rc:Nat}{R:List Ru}(hr:au w w.heap.size (.slice ra R.length rc) R)(s:Stp):
 Calls Tryz.prog 93 #[.agg #[.int .i64 T,.int .i64 N,.slice ra R.length rc],.agg #[.int .i64 s.op,.int .i64 s.a,.int .i64 s.b,.int .i64 s.c]] w fun e w'=> ∃cv lv RL,e= .returned (.tuple #[cv,.agg #[.int .i64 (kG T N R s).1,.int .i64 (kG T N R s).2.1,lv],.int .i64 (kG T N R s).2.2.1])/\aM w' w.heap.size lv RL/\(RL.map fun x=>x.2)=(kG T N R s).2.2.2/\Below w.heap.size w w':=by
 cases hm:aD T N R with
 |false=>
  have e:kG T N R s=(0,0,2,[]):=by unfold kG;rw[hm];rfl
  rw[e];refine(ae9 hr hm s).mono ?_;rintro e w' ⟨rfl,hB⟩;exact⟨_,_,[],rfl,IC _ _,rfl,hB⟩
 |true=>
  obtain⟨t,n,rfl,rfl⟩:=afd hm;cases hs:aX n R s with
  |false=>
   have e:kG t n R s=(0,0,2,[]):=by unfold kG;rw[hm,hs];rfl
   rw[e];refine(afa hr hm s hs).mono ?_;rintro e w' ⟨rfl,hB⟩;exact⟨_,_,[],rfl,IC _ _,rfl,hB⟩
  |true=>
   cases hz:aD t (kT n s:Nat) (gy n R s) with
   |false=>
    have e:kG t n R s=(0,0,1,[]):=by unfold kG;rw[hm,hs,Int.toNat_natCast,hz];rfl
    rw[e];refine(afb hr hm s hs hz).mono ?_;rintro e w' ⟨rfl,hB⟩;exact⟨_,_,[],rfl,IC _ _,rfl,hB⟩
   |true=>
    have e:kG t n R s=((t:Int),((kT n s:Nat):Int),0,gy n R s):=by unfold kG;rw[hm,hs,Int.toNat_natCast,hz];rfl
    rw[e];refine(afc hr hm s hs hz).mono ?_;rintro e w' ⟨cv,lv,RL,rfl,_,h2,h3,hB⟩;exact⟨cv,lv,RL,rfl,h2,h3,hB⟩
theorem aff{w:World}{T N:Int}{ra:Option Addr}{rc:Nat}{R:List Ru}(hr:au w w.heap.size (.slice ra R.length rc) R)(s:Stp):
 Calls Tryz.prog 68 #[.agg #[.int .i64 T,.int .i64 N,.slice ra R.length rc],.agg #[.int .i64 s.op,.int .i64 s.a,.int .i64 s.b,.int .i64 s.c]] w fun e w'=> ∃lv RL,e= .returned (.tuple #[.agg #[.int .i64 (kG T N R s).1,.int .i64 (kG T N R s).2.1,lv],.int .i64 (kG T N R s).2.2.1])/\aM w' w.heap.size lv RL/\(RL.map fun x=>x.2)=(kG T N R s).2.2.2/\Below w.heap.size w w':=by
 obtain⟨W0,hW0⟩:∃W,((w.alloc (.cells #[.int .i64 T,.int .i64 N,.slice ra R.length rc] 26)).alloc (.cells #[.int .i64 s.op,.int .i64 s.a,.int .i64 s.b,.int .i64 s.c] 77)).alloc (.cells #[.int .i64 0,.int .i64 0,.slice none 0 0] 26)=W:=⟨_,rfl⟩;have hT0:=E9 (T:=T) (N:=N) (s:=s) hr;rw[hW0]at hT0;have HT:Hid (bO w T N ra rc R s W0):=hT0;have g0:=hT0.g0;have g1:=hT0.g1;have g2:=hT0.g2;have s0:=hT0.s0;have s1:=hT0.s1;have s2:=hT0.s2;have s3:=hT0.s3;have tk:=afe (T:=T) (N:=N) hT0.all s;obtain⟨⟨V,M,E,RR⟩,hV⟩:∃x,kG T N R s=x:=⟨_,rfl⟩;rw[hV]at tk⊢;simp only at tk⊢;clear hr hT0 hV
 go_enter Tryz.func68,Tryz.ntmps68
 go_wp2_with
  (go_at_call 93;refine tk.mono ?_;rintro e w2 ⟨cv,lv,RL,rfl,hR2,hmap,hB2⟩
   obtain⟨la,lc,hlv⟩:=bK hR2.own;subst hlv;have hB3:Below W0.heap.size W0 (w2.alloc (.cells #[.int .i64 V,.int .i64 M,.slice la RL.length lc] 26)):=hB2.alloc hB2.size _;have dZ:=HT.out.next hB3;have y0:=dZ.y0;have y1:=dZ.y1;have y2:=dZ.y2;have BK:=dZ.yf 0;have BL:=dZ.yf 1;have BM:=dZ.yf 2;have HF:Hid (bO w T N ra rc R s (w2.alloc (.cells #[.int .i64 V,.int .i64 M,.slice la RL.length lc] 26))/\aM (w2.alloc (.cells #[.int .i64 V,.int .i64 M,.slice la RL.length lc] 26)) W0.heap.size (.slice la RL.length lc) RL/\(RL.map fun x=>x.2)=RR):=⟨dZ,hR2.below ((Below.refl _ _).alloc (Nat.le_refl _) _),hmap⟩
   clear tk hR2 hmap hB2 hB3 dZ g0 g1 g2 s0 s1 s2 s3 hW0)
 have q0:=uq (v0:= .int .i64 V) (v1:= .int .i64 M) (v2:= .slice la RL.length lc) y0;have q1:=uw (v0:= .int .i64 V) (v1:= .int .i64 M) (v2:= .slice la RL.length lc) y1;have q2:=uy (v0:= .int .i64 V) (v1:= .int .i64 M) (v2:= .slice la RL.length lc) y2;refine bodyPost_ret (v:= .tuple #[.agg #[.int .i64 V,.int .i64 M,.slice la RL.length lc],.int .i64 E]) (by simp[results,Tryz.results68,go_sem,q0,q1,q2]) rfl ?_;have hlo:=HT.out.size;exact⟨_,RL,rfl,(((HF.out.2.1.qL (by simp only;omega) _).qL (by simp only;omega) _).qL (by simp only;omega) _).mono (by omega),HF.out.2.2,HF.out.1.set _ _ _⟩
def stepG(p:bQ)(s:Stp):Bool:=aD p.T (kT p.N s:Nat) (gy p.N p.R s)
def kV(p:bQ)(s:Stp):bQ:=if aX p.N p.R s=true/\stepG p s=true then ⟨p.tx,p.T,kT p.N s,gy p.N p.R s⟩ else p
def lW(p:bQ)(s:Stp):List UInt8:=if aX p.N p.R s=true then (if stepG p s=true then dI [111,107] [((gy p.N p.R s).length:Int)] else dI [98,97,100] [1]) else dI [98,97,100] [2]
section
variable{w w':World}{pb B G:Nat}{rv:Value}{p:bQ}
theorem aM.JN{lv:Value}{RL:List (Value×Ru)}(h:aM w B lv RL):l7 w B lv (RL.map fun x=>x.2):=fun w2 h1 h2=>
 (show aM w2 B lv RL from ⟨jg h.own fun g hg=>h2 g (h.own.lt g hg).1 (h.own.lt g hg).2,fun x hx=>(h.sym x hx).kept h1 fun b hA hlt=>⟨h2 b hA.1 hlt,hA⟩⟩).rules
theorem WB{s:Stp}(hm:aD p.T p.N p.R=true):∃(T1 N1 x:Int) (R1:List Ru),kG p.T p.N p.R s=(T1,N1,x,R1)/\
 ((x=0/\∃T2 N2:Nat,T1=T2/\N1=N2/\aD T2 N2 R1=true/\kV p s=⟨p.tx,T2,N2,R1⟩/\lW p s=dI [111,107] [(R1.length:Int)])\/(x≠0/\fQ x/\kV p s=p/\lW p s=dI [98,97,100] [x])):=by
 unfold kG kV lW;rw[hm,Int.toNat_natCast];cases h1:aX p.N p.R s with
 |false=>exact⟨0,0,2,[],by simp,.inr ⟨by omega,⟨by omega,by omega⟩,by simp,by simp⟩⟩
 |true=>
  cases h2:stepG p s with
  |false=>
   have h3:=h2;unfold stepG at h3;exact⟨0,0,1,[],by simp[h3],.inr ⟨by omega,⟨by omega,by omega⟩,by simp,by simp⟩⟩
  |true=>
   have h3:=h2;unfold stepG at h3;exact⟨p.T,(kT p.N s:Nat),0,gy p.N p.R s,by simp[h3],.inl ⟨rfl,p.T,kT p.N s,rfl,rfl,h3,by simp,by simp⟩⟩
theorem afg{s:Stp}(h:aZ w pb B rv p)(hE:cB G w)(hG:G<=pb)(hm:aD p.T p.N p.R=true):Calls Tryz.prog 40 #[.pointer (some ⟨pb,0,none⟩),.agg #[.int .i64 s.op,.int .i64 s.a,.int .i64 s.b,.int .i64 s.c]] w fun e w'=>e= .returned (.string ⟨(lW p s).toArray⟩)/\(∃B' rv',aZ w' pb B' rv' (kV p s)/\Bh w B rv p B' rv' (kV p s))/\But pb w w':=by
 obtain⟨ra,rc,aG⟩:=h.rules.at.1;subst aG;have hpb:=h.below;obtain⟨T1,N1,x,R1,hv,hV⟩:=WB (s:=s) hm;have HV:Hid ((x=0/\∃T2 N2:Nat,T1=T2/\N1=N2/\aD T2 N2 R1=true/\kV p s=⟨p.tx,T2,N2,R1⟩/\lW p s=dI [111,107] [(R1.length:Int)])\/(x≠0/\fQ x/\kV p s=p/\lW p s=dI [98,97,100] [x])):=hV;have HE:Hid (cB G w/\G<=pb/\pb<w.heap.size/\aZ w pb B (.slice ra p.R.length rc) p):=⟨hE,hG,hpb,h⟩;obtain⟨W1,hW1⟩:∃V,w.alloc (.cells #[.int .i64 s.op,.int .i64 s.a,.int .i64 s.b,.int .i64 s.c] 77)=V:=⟨_,rfl⟩;have hB1:Below w.heap.size w W1:=by rw[<-hW1];exact(Below.refl _ _).alloc (Nat.le_refl _) _
 have hx1:=heap_alloc_new w (.cells #[.int .i64 s.op,.int .i64 s.a,.int .i64 s.b,.int .i64 s.c] 77);rw[hW1]at hx1;obtain⟨sb,hsb⟩:∃y,w.heap.size=y:=⟨_,rfl⟩;rw[hsb]at hx1
 have HS:Hid (∀wq,Below W1.heap.size W1 wq->(wq.cell? ⟨pb,0,none⟩=some (.int .i64 p.T)/\wq.cell? ⟨pb,1,none⟩=some (.int .i64 p.N)/\wq.cell? ⟨pb,2,none⟩=some (.slice ra p.R.length rc))/\(wq.cell? ⟨sb,0,none⟩=some (.int .i64 s.op)/\wq.cell? ⟨sb,1,none⟩=some (.int .i64 s.a)/\wq.cell? ⟨sb,2,none⟩=some (.int .i64 s.b)/\wq.cell? ⟨sb,3,none⟩=some (.int .i64 s.c))/\Below w.heap.size w wq/\au wq wq.heap.size (.slice ra p.R.length rc) p.R):=fun wq hq=>by
  have hP:=(h.later hB1).later hq;have hy:=(hq.block _ (Array.getElem?_eq_some_iff.1 hx1).1).trans hx1;obtain⟨q0,q1,q2,-⟩:=hP.cells;exact⟨⟨q0,q1,q2⟩,⟨ai hy rfl,ai hy rfl,ai hy rfl,ai hy rfl⟩,hB1.trans (hq.mono hB1.size),hP.rules.at⟩
 have HW:Hid (w.alloc (.cells #[.int .i64 s.op,.int .i64 s.a,.int .i64 s.b,.int .i64 s.c] 77)=W1/\w.heap.size=sb/\w.heap.size<=W1.heap.size):=⟨hW1,hsb,hB1.size⟩
 have HD:Hid (∀wq,Below W1.heap.size W1 wq->Calls Tryz.prog 68 #[.agg #[.int .i64 p.T,.int .i64 p.N,.slice ra p.R.length rc],.agg #[.int .i64 s.op,.int .i64 s.a,.int .i64 s.b,.int .i64 s.c]] wq fun e w'=> ∃la lc,e= .returned (.tuple #[.agg #[.int .i64 T1,.int .i64 N1,.slice la R1.length lc],.int .i64 x])/\l7 w' wq.heap.size (.slice la R1.length lc) R1/\Below wq.heap.size wq w'):=fun wq hq=>by
  refine(aff (T:=p.T) (N:=p.N) (HS.out wq hq).2.2.2 s).mono fun e w' ⟨lv,RL,h1,h2,h3,h4⟩=> ?_;rw[hv]at h1 h3;obtain⟨la,lc,hlv⟩:=bK h2.own;have hi:=h2.JN;have h3':(RL.map fun x=>x.2)=R1:=h3;have hl:RL.length=R1.length:=by rw[<-h3',List.length_map]
  rw[h3',hlv,hl]at hi;exact⟨la,lc,by rw[h1,hlv,hl],hi,h4⟩
 clear h hE hx1 hB1 hW1 hv hsb hV hm
 go_enter Tryz.func40,Tryz.ntmps40
 go_upto_region 1 with fail
 rw[HW.out.1];rw[HW.out.2.1]
 go_cut [5,6] from 7 to 15 (fun s5 s6 wx=> ∃(gb:Nat) (la:Option Addr) (lc:Nat),s5= .pointer (some ⟨gb,0,none⟩)/\s6= .int .i64 x/\wx.heap[gb]?=some (.cells #[.int .i64 T1,.int .i64 N1,.slice la R1.length lc] 26 (0,0))/\Below w.heap.size w wx/\l7 wx w.heap.size (.slice la R1.length lc) R1)
 case first=>
  obtain⟨Wd,hWd⟩:∃V,W1.drew=V:=⟨_,rfl⟩;have hBd:Below W1.heap.size W1 Wd:=by rw[<-hWd];exact(Below.refl _ _).drew
  have S0:=HS.out Wd hBd;have dH:Hid (Below W1.heap.size W1 Wd):=hBd;clear hBd;refine lY [0,1,2,3,4] 7 11 (fun wq=>(wq.cell? ⟨pb,0,none⟩=some (.int .i64 p.T)/\wq.cell? ⟨pb,1,none⟩=some (.int .i64 p.N)/\wq.cell? ⟨pb,2,none⟩=some (.slice ra p.R.length rc))/\(wq.cell? ⟨sb,0,none⟩=some (.int .i64 s.op)/\wq.cell? ⟨sb,1,none⟩=some (.int .i64 s.a)/\wq.cell? ⟨sb,2,none⟩=some (.int .i64 s.b)/\wq.cell? ⟨sb,3,none⟩=some (.int .i64 s.c))) (by kernel_rfl) (by kernel_rfl) (by rw[hWd];exact⟨S0.1,S0.2.1⟩) ?_;rw[hWd];clear hWd S0
  iterate 5
   refine aO.Ac (v:= ?_) rfl (by rfl) ?_ ?_;rotate_left
   ·intro w' hSw
    obtain⟨⟨z0,z1,z2⟩,z3,z4,z5,z6⟩:=hSw
    go_simp
    try with_reducible rfl
   simp only[Act.put,List.setIfInBounds_toArray,List.set_cons_zero,List.set_cons_succ]
  rw[aO];refine ax.two (i:=5) (i':=9) (by kernel_rfl) ⟨_,rfl,fun K hK=> ?_⟩ ⟨_,rfl,fun K hK=> ?_⟩
  ·have dd:=HD.out Wd dH.out
   go_simp
   refine dd.mono ?_;rintro e w2 ⟨la,lc,rfl,hr2,h2⟩;dsimp only;have hb2:=dH.out.trans (h2.mono dH.out.size);have S2:=HS.out w2 hb2;refine hK.out _ _ (fun _=>⟨S2.1,S2.2.1⟩) ?_;clear hK;refine ax.read (i:=6) (v:= .tuple #[.agg #[.int .i64 T1,.int .i64 N1,.slice la R1.length lc],.int .i64 x]) rfl (by kernel_rfl) (by rfl) (fun w' _=>by unfold execOp;go_simp) ⟨S2.1,S2.2.1⟩ ?_;simp only[Act.put,List.setIfInBounds_toArray,List.set_cons_zero,List.set_cons_succ];refine ax.read (i:=7) (v:= .agg #[.int .i64 T1,.int .i64 N1,.slice la R1.length lc]) rfl (by kernel_rfl) (by rfl) (fun w' _=>by unfold execOp;go_simp) ⟨S2.1,S2.2.1⟩ ?_;simp only[Act.put,List.setIfInBounds_toArray,List.set_cons_zero,List.set_cons_succ];refine ax.read (i:=8) (v:= .int .i64 x) rfl (by kernel_rfl) (by rfl) (fun w' _=>by unfold execOp;go_simp) ⟨S2.1,S2.2.1⟩ ?_;simp only[Act.put,List.setIfInBounds_toArray,List.set_cons_zero,List.set_cons_succ];refine ax.one (i:=9) (by kernel_rfl) ⟨_,rfl,fun K hK=> ?_⟩
   go_simp
   have S3:=HS.out (w2.alloc (.cells #[.int .i64 0,.int .i64 0,.slice none 0 0] 26)) (hb2.alloc hb2.size _);refine hK.out _ _ (fun _=>⟨S3.1,S3.2.1⟩) ?_;clear hK;refine ax.one (i:=10) (by kernel_rfl) ⟨_,rfl,fun K hK=> ?_⟩
   go_simp
   have S4:=HS.out (w2.alloc (.cells #[.int .i64 T1,.int .i64 N1,.slice la R1.length lc] 26)) (hb2.alloc hb2.size _);refine hK.out _ _ (fun _=>⟨S4.1,S4.2.1⟩) ?_;clear hK;refine ax.last (i:=11) (by kernel_rfl) ⟨_,rfl,fun K hK=> ?_⟩
   go_simp
   refine hK.out _ _ (fun h=>absurd h (by omega)) (NoPanic.normal ?_);clear hK
   go_wp2_with fail
   go_meet
   case rel=>
    refine⟨w2.heap.size,la,lc,rfl,rfl,heap_alloc_new w2 _,S4.2.2.1,?_⟩;have hz:=dH.out.size;have hz1:=HW.out.2.2;exact hr2.on (by omega) (by simp) fun k _ hk=>Below.heap_alloc _ _ _ hk
  ·go_simp
   have hba:Below W1.heap.size W1 (Wd.alloc (.cells #[.int .i64 0,.int .i64 0,.slice none 0 0] 26)):=dH.out.alloc dH.out.size _;have S1:=HS.out _ hba;have dd:=HD.out _ hba;refine hK.out _ _ (fun _=>⟨S1.1,S1.2.1⟩) ?_;clear hK;have hxg:=heap_alloc_new Wd (.cells #[.int .i64 0,.int .i64 0,.slice none 0 0] 26);obtain⟨gb,hgb⟩:∃y,Wd.heap.size=y:=⟨_,rfl⟩;obtain⟨Wa,hWa⟩:∃V,Wd.alloc (.cells #[.int .i64 0,.int .i64 0,.slice none 0 0] 26)=V:=⟨_,rfl⟩;have hza:Wa.heap.size=gb+1:=by rw[<-hWa,<-hgb];simp
   rw[hWa]at hxg dd hba;rw[hgb]at hxg;rw[hWa,hgb];have HX:Hid (Wa.heap[gb]?=some (.cells #[.int .i64 0,.int .i64 0,.slice none 0 0] 26 (0,0))/\Wa.heap.size=gb+1/\Below W1.heap.size W1 Wa/\W1.heap.size<=gb):=⟨hxg,hza,hba,by have:=dH.out.size;omega⟩;clear hWa hgb hxg hza hba S1;refine ax.one (i:=5) (by kernel_rfl) ⟨_,rfl,fun K hK=> ?_⟩
   go_simp
   refine dd.mono ?_;rintro e w2 ⟨la,lc,rfl,hr2,h2⟩;dsimp only;have hb2:=HX.out.2.2.1.trans (h2.mono HX.out.2.2.1.size);have S2:=HS.out w2 hb2;refine hK.out _ _ (fun _=>⟨S2.1,S2.2.1⟩) ?_;clear hK dd;refine ax.read (i:=6) (v:= .tuple #[.agg #[.int .i64 T1,.int .i64 N1,.slice la R1.length lc],.int .i64 x]) rfl (by kernel_rfl) (by rfl) (fun w' _=>by unfold execOp;go_simp) ⟨S2.1,S2.2.1⟩ ?_;simp only[Act.put,List.setIfInBounds_toArray,List.set_cons_zero,List.set_cons_succ];refine ax.read (i:=7) (v:= .agg #[.int .i64 T1,.int .i64 N1,.slice la R1.length lc]) rfl (by kernel_rfl) (by rfl) (fun w' _=>by unfold execOp;go_simp) ⟨S2.1,S2.2.1⟩ ?_;simp only[Act.put,List.setIfInBounds_toArray,List.set_cons_zero,List.set_cons_succ];refine ax.read (i:=8) (v:= .int .i64 x) rfl (by kernel_rfl) (by rfl) (fun w' _=>by unfold execOp;go_simp) ⟨S2.1,S2.2.1⟩ ?_;simp only[Act.put,List.setIfInBounds_toArray,List.set_cons_zero,List.set_cons_succ];have hxb:=(h2.block gb (by have:=HX.out.2.1;omega)).trans HX.out.1;have e0:=ai (i:=0) hxb rfl;have e1:=ai (i:=1) hxb rfl;have e2:=ai (i:=2) hxb rfl;have f0:=bD (i:=0) hxb;have f1:=bD (i:=1) hxb;have f2:=bD (i:=2) hxb;obtain⟨W5,jG⟩:∃V,((w2.setCell ⟨gb,0,none⟩ (.int .i64 T1)).setCell ⟨gb,1,none⟩ (.int .i64 N1)).setCell ⟨gb,2,none⟩ (.slice la R1.length lc)=V:=⟨_,rfl⟩;have hx5:=Lib.heap_setCell_same (i:=2) (Lib.heap_setCell_same (i:=1) (Lib.heap_setCell_same (i:=0) hxb (.int .i64 T1)) (.int .i64 N1)) (.slice la R1.length lc);have hbt:But gb w2 (((w2.setCell ⟨gb,0,none⟩ (.int .i64 T1)).setCell ⟨gb,1,none⟩ (.int .i64 N1)).setCell ⟨gb,2,none⟩ (.slice la R1.length lc)):=((But.set _ _ _).trans (But.set _ _ _)).trans (But.set _ _ _);rw[jG]at hx5 hbt;have hb5:Below W1.heap.size W1 W5:=hb2.trans (hbt.below HX.out.2.2.2 hb2.size);have S5:=HS.out W5 hb5
   have H5:Hid (W5.heap[gb]?=some (.cells #[.int .i64 T1,.int .i64 N1,.slice la R1.length lc] 26 (0,0))/\Below w.heap.size w W5/\l7 W5 w.heap.size (.slice la R1.length lc) R1):=by
    refine⟨hx5,S5.2.2.1,?_⟩;have hz1:=HW.out.2.2;have hz2:=HX.out.2.1;have hz3:=HX.out.2.2.2;exact hr2.on (by omega) hbt.size fun k h1 h2=>hbt.block k h2 (by omega)
   have Dg:Hid (((w2.setCell ⟨gb,0,none⟩ (.int .i64 T1)).setCell ⟨gb,1,none⟩ (.int .i64 N1)).setCell ⟨gb,2,none⟩ (.slice la R1.length lc)=W5):=jG;clear hx5 hbt hb5 hxb hr2 h2 hb2 jG;refine ax.one (i:=10) (by kernel_rfl) ⟨_,rfl,fun K hK=> ?_⟩
   go_simp
   rw[Dg.out];refine hK.out _ _ (fun _=>⟨S5.1,S5.2.1⟩) ?_;clear hK;refine ax.last (i:=11) (by kernel_rfl) ⟨_,rfl,fun K hK=> ?_⟩
   go_simp
   refine hK.out _ _ (fun h=>absurd h (by omega)) (NoPanic.normal ?_);clear hK
   go_wp2_with fail
   go_meet
   case rel=>exact⟨gb,la,lc,rfl,rfl,H5.out.1,H5.out.2.1,H5.out.2.2⟩
 case rest=>
  obtain⟨gb,la,lc,rfl,rfl,hx,hB,hR⟩:=hcut;have u0:=ai (i:=0) hx rfl;have u1:=ai (i:=1) hx rfl;have u2:=ai (i:=2) hx rfl;obtain⟨hE,hG',WC,hP⟩:=HE.out;rcases HV.out with⟨hx0,T2,N2,rfl,rfl,hm,hp1,ho1⟩|⟨hx0,hxi,hp1,ho1⟩
  ·subst hx0
   have zT:=(fV hm).2.2.2.1;have hP3:=hP.later hB;have l8:=hP3.OQ (T:=T2) (N:=N2) hR WC hm;obtain⟨W4,dD⟩:∃V,((wc.setCell ⟨pb,0,none⟩ (.int .i64 T2)).setCell ⟨pb,1,none⟩ (.int .i64 N2)).setCell ⟨pb,2,none⟩ (.slice la R1.length lc)=V:=⟨_,rfl⟩;rw[dD]at l8
   have hb4:But pb w W4:=by
    rw[<-dD];exact(But.of pb hB).trans (((But.set _ _ _).trans (But.set _ _ _)).trans (But.set _ _ _))
   have td:=wH (u:=[111,107]) (x:=(R1.length:Int)) (by simp) (hE.but hb4 hG' WC) (by have:=hb4.size;omega) ⟨by omega,by omega⟩;obtain⟨p0,p1,p2,p3⟩:=hP3.cells;have f0:=bD (i:=0) hP3.at_;have f1:=bD (i:=1) hP3.at_;have f2:=bD (i:=2) hP3.at_;obtain⟨-,-,r2,-⟩:=l8.cells;have WE:Hid (((wc.setCell ⟨pb,0,none⟩ (.int .i64 T2)).setCell ⟨pb,1,none⟩ (.int .i64 N2)).setCell ⟨pb,2,none⟩ (.slice la R1.length lc)=W4):=dD;have H4:Hid (aZ W4 pb w.heap.size (.slice la R1.length lc) ⟨p.tx,T2,N2,R1⟩/\But pb w W4/\kV p s=⟨p.tx,T2,N2,R1⟩/\lW p s=dI [111,107] [(R1.length:Int)]):=⟨l8,hb4,hp1,ho1⟩;clear hE hP hx hB hR hp1 ho1 hm hP3 l8 hb4 dD
   go_upto_region 5 with fail
   rw[WE.out];clear p0 p1 p2 p3 f0 f1 f2 u0 u1 u2 WE
   go_wp2_with
    (go_at_call 24;refine td.mono ?_;rintro e w5 ⟨rfl,h5⟩
     have H5:Hid (Below W4.heap.size W4 w5):=h5
     clear td h5)
   go_ret;exact⟨by rw[H4.out.2.2.2];rfl,⟨w.heap.size,.slice la R1.length lc,by rw[H4.out.2.2.1];exact H4.out.1.later H5.out,.inr (Nat.le_refl _)⟩,H4.out.2.1.trans (But.of pb H5.out)⟩
  ·have b1:(x==0)=false:=by simpa using hx0
   have td:=wH (u:=[98,97,100]) (x:=x) (by simp) (hE.below hB (by omega)) (by have:=hB.size;omega) hxi;have H2:Hid (Below w.heap.size w wc/\aZ wc pb B (.slice ra p.R.length rc) p/\kV p s=p/\lW p s=dI [98,97,100] [x]):=⟨hB,hP.later hB,hp1,ho1⟩;clear hE hP hx hB hR hx0 hxi hp1 ho1 u0 u1 u2
   go_wp2_with
    (go_at_call 24;refine td.mono ?_;rintro e w4 ⟨rfl,h4⟩
     have H4:Hid (Below wc.heap.size wc w4):=h4
     clear td h4)
   go_ret;exact⟨by rw[H2.out.2.2.2];rfl,⟨B,.slice ra p.R.length rc,by rw[H2.out.2.2.1];exact H2.out.2.1.later H4.out,.inl ⟨rfl,rfl,by rw[H2.out.2.2.1]⟩⟩,(But.of pb H2.out.1).trans (But.of pb H4.out)⟩
end
def jC(X:List Bool):Nat:=(X.filter fun b=>b).length
theorem Ji(X:List Bool):jC X<=X.length:=List.length_filter_le _ _
theorem afh{X:List Bool}{i:Nat}(h:i<X.length):jC (X.take (i+1))=jC (X.take i)+if X.getD i false then 1 else 0:=by
 unfold jC;rw[List.take_succ_eq_append_getElem h,List.filter_append,List.length_append];simp only[List.getD,List.getElem?_eq_getElem h,Option.getD_some];cases X[i]<;>simp
section
variable{w:World}
theorem Nt{v:Value}{X:List Bool}(h:kL w v X)(hl:X.length<=1000):Calls Tryz.prog 28 #[v] w fun e w'=>e= .returned (.int .i64 (jC X:Nat))/\w'=w:=by
 obtain⟨a,c,hv⟩:=h.1;subst hv;obtain⟨n,hn⟩:∃n,X.length=n:=⟨_,rfl⟩;have HX:Hid (kL w (.slice a X.length c) X/\X.length=n):=⟨h,hn⟩;rw[hn]at hl⊢;clear h hn
 go_enter Tryz.func28,Tryz.ntmps28
 go_wp2_with fail
 go_loopw [3,8] (fun v3 v8 wr=> ∃i:Nat,v8= .int .i64 i/\i<=n/\v3= .int .i64 (jC (X.take i):Nat)/\wr=w) (fun _ v _=>n-(intOf v).toNat)
 case atStart=>exact⟨0,rfl,Nat.zero_le _,by simp[jC],rfl⟩
 case round=>
  obtain⟨i,rfl,hi,rfl,rfl⟩:=hrel;by_cases hlt:i<n
  ·have d1:decide ((i:Int)<(n:Int))=true:=decide_eq_true (by omega)
   obtain⟨hb,hn⟩:=HX.out;obtain⟨g,o,c2,h1,h2⟩:=hb.2 i (by omega);obtain rfl:a=some ⟨g,o,none⟩:=by injection h1
   have hnx:=afh (X:=X) (i:=i) (by omega);have hle:jC (X.take i)<=1000:=Nat.le_trans (Ji _) (by simp;omega);obtain⟨k,hk⟩:∃k,jC (X.take i)=k:=⟨_,rfl⟩;rw[hk]at hnx hle⊢;have HN:Hid (jC (X.take (i+1))=k+if X.getD i false then 1 else 0):=hnx;cases hx:X.getD i false with
   |true=>
    rw[hx]at h2 HN;clear hb hn h1 hnx hk hx
    go_wp2_with fail
    go_roundw
    case rel=>exact⟨i+1,by go_num,by omega,by rw[HN.out];go_num,by first|rfl|trivial⟩
    case measure=>simp[intOf];omega
   |false=>
    rw[hx]at h2 HN;clear hb hn h1 hnx hk hx
    go_wp2_with fail
    go_roundw
    case rel=>exact⟨i+1,by go_num,by omega,by rw[HN.out];simp,by first|rfl|trivial⟩
    case measure=>simp[intOf];omega
  ·have d1:decide ((i:Int)<(n:Int))=false:=decide_eq_false (by omega)
   have HE:Hid (jC (X.take i)=jC X):=by
    show _=_;rw[List.take_of_length_le (by have:=HX.out.2;omega)]
   rw[HE.out]
   go_wp2_with fail
   go_ret;exact⟨rfl,rfl⟩
end
end Go.Proofs.YtblkkhfdeaaidaaGreatDoor
