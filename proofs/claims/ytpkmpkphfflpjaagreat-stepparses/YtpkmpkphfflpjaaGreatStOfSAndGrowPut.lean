import Derived.Test.YtpkmpkphfflpjaaGreatStCopiesAndStRl
import Derived.BigQuiet
import Derived.Test.YtpkmpkphfflpjaaGreatTrIfAndStLeft
import Derived.Test.YtpkmpkphfflpjaaGreatStepAt2AndStOfE
import Derived.Test.YtpkmpkphfflpjaaGreatStOfIAndTrEach
import Derived.Test.YtpkmpkphfflpjaaGreatMathAndHeldSeq
import Derived.Deep.RegionLaw
import Derived.Deep.RegionWith
import Derived.Deep.LoopGhost
set_option maxHeartbeats 6400000
set_option maxRecDepth 100000
namespace Go.Proofs.YtpkmpkphfflpjaaGreat
open Go.RowKit
theorem Sk{w:World}{xb:Nat}{n N:Int}(x1:w.cell? ⟨xb,1,none⟩=some (.int .i64 N)):
 Calls Tryz.prog 41 #[.int .i64 n,.pointer (some ⟨xb,0,none⟩)] w fun e w'=>e= .returned (.bool (decide (0<n)&&decide (n<N)))/\w'=w:=by
 by_cases h0:0<n
 ·have e0:decide (0<n)=true:=decide_eq_true h0
  by_cases h1:n<N
  ·have e1:decide (n<N)=true:=decide_eq_true h1
   rw[e0,e1]
   go_enter Tryz.func41,Tryz.ntmps41
   go_wp2_with fail
   go_ret;exact⟨rfl,rfl⟩
  ·have e1:decide (n<N)=false:=decide_eq_false h1
   rw[e0,e1];clear h1
   go_enter Tryz.func41,Tryz.ntmps41
   go_wp2_with fail
   go_ret;exact⟨rfl,rfl⟩
 ·have e0:decide (0<n)=false:=decide_eq_false h0
  rw[e0];clear h0
  go_enter Tryz.func41,Tryz.ntmps41
  go_wp2_with fail
  go_ret;exact⟨rfl,rfl⟩
theorem aas{w:World}{T N:Int}{ra:Option Addr}{rn rc:Nat}{op a b c:Int}:
 Calls Tryz.prog 26 #[.agg #[.int .i64 T,.int .i64 N,.slice ra rn rc,.int .i64 op,.int .i64 a,.int .i64 b,.int .i64 c]] w fun e w'=>e= .returned (.tuple #[.iface 107 (.agg #[.int .i64 T,.int .i64 N,.slice ra rn rc,.int .i64 op,.int .i64 a,.int .i64 b,.int .i64 c]),.bool (decide (0<a)&&decide (a<N)&&(decide (0<b)&&decide (b<N))&&decide (c=0))])/\Below w.heap.size w w':=by
 obtain⟨W0,hW0⟩:∃W,w.alloc (.cells #[.int .i64 T,.int .i64 N,.slice ra rn rc,.int .i64 op,.int .i64 a,.int .i64 b,.int .i64 c] 60)=W:=⟨_,rfl⟩;have HB:Hid (Below w.heap.size w W0):=by show Below _ _ _;rw[<-hW0];exact(Below.refl _ _).alloc (Nat.le_refl _) _
 have hb:=heap_alloc_new w (.cells #[.int .i64 T,.int .i64 N,.slice ra rn rc,.int .i64 op,.int .i64 a,.int .i64 b,.int .i64 c] 60);rw[hW0]at hb;have x0:W0.cell? ⟨w.heap.size,0,none⟩=some (.int .i64 T):=ah hb rfl;have x1:W0.cell? ⟨w.heap.size,1,none⟩=some (.int .i64 N):=ah hb rfl;have x2:W0.cell? ⟨w.heap.size,2,none⟩=some (.slice ra rn rc):=ah hb rfl;have x3:W0.cell? ⟨w.heap.size,3,none⟩=some (.int .i64 op):=ah hb rfl;have x4:W0.cell? ⟨w.heap.size,4,none⟩=some (.int .i64 a):=ah hb rfl;have x5:W0.cell? ⟨w.heap.size,5,none⟩=some (.int .i64 b):=ah hb rfl;have x6:W0.cell? ⟨w.heap.size,6,none⟩=some (.int .i64 c):=ah hb rfl;have ia:=fun k=>Sk (w:=W0.drewN k) (xb:=w.heap.size) (n:=a) (N:=N) x1;have ib:=fun k=>Sk (w:=W0.drewN k) (xb:=w.heap.size) (n:=b) (N:=N) x1;clear hb;cases hA:(decide (0<a)&&decide (a<N)) with
 |false=>
  simp only[hA]at ia
  go_enter Tryz.func26,Tryz.ntmps26
  go_wp2_with fail
  go_big_quiet ((go_at_call 41;exact Calls.quiet_of_same (ia _)))
  go_wp2_with fail
  refine bodyPost_ret (v:= .tuple #[.iface 107 (.agg #[.int .i64 T,.int .i64 N,.slice ra rn rc,.int .i64 op,.int .i64 a,.int .i64 b,.int .i64 c]),.bool false]) (by simp[results,Tryz.results26,go_sem]) rfl ?_;exact⟨by simp,below_drewN HB.out _⟩
 |true=>
  simp only[hA]at ia;cases hB:(decide (0<b)&&decide (b<N)) with
  |false=>
   simp only[hB]at ib
   go_enter Tryz.func26,Tryz.ntmps26
   go_wp2_with fail
   go_big_quiet ((go_at_call 41;first|with_reducible exact Calls.quiet_of_same (ia _)|with_reducible exact Calls.quiet_of_same (ib _)))
   go_wp2_with fail
   refine bodyPost_ret (v:= .tuple #[.iface 107 (.agg #[.int .i64 T,.int .i64 N,.slice ra rn rc,.int .i64 op,.int .i64 a,.int .i64 b,.int .i64 c]),.bool false]) (by simp[results,Tryz.results26,go_sem]) rfl ?_;exact⟨by simp,below_drewN HB.out _⟩
  |true=>
   simp only[hB]at ib;by_cases hc:c=0
   ·have ec:(c==0)=true:=by simpa using hc
    have Mx:Hid (decide (c=0)=true):=decide_eq_true hc;clear hc
    go_enter Tryz.func26,Tryz.ntmps26
    go_wp2_with fail
    go_big_quiet ((go_at_call 41;first|with_reducible exact Calls.quiet_of_same (ia _)|with_reducible exact Calls.quiet_of_same (ib _)))
    go_wp2_with fail
    refine bodyPost_ret (v:= .tuple #[.iface 107 (.agg #[.int .i64 T,.int .i64 N,.slice ra rn rc,.int .i64 op,.int .i64 a,.int .i64 b,.int .i64 c]),.bool true]) (by simp[results,Tryz.results26,go_sem]) rfl ?_;exact⟨by rw[Mx.out];rfl,below_drewN HB.out _⟩
   ·have ec:(c==0)=false:=by simpa using hc
    have Mx:Hid (decide (c=0)=false):=decide_eq_false hc;clear hc
    go_enter Tryz.func26,Tryz.ntmps26
    go_wp2_with fail
    go_big_quiet ((go_at_call 41;first|with_reducible exact Calls.quiet_of_same (ia _)|with_reducible exact Calls.quiet_of_same (ib _)))
    go_wp2_with fail
    refine bodyPost_ret (v:= .tuple #[.iface 107 (.agg #[.int .i64 T,.int .i64 N,.slice ra rn rc,.int .i64 op,.int .i64 a,.int .i64 b,.int .i64 c]),.bool false]) (by simp[results,Tryz.results26,go_sem]) rfl ?_;exact⟨by rw[Mx.out];rfl,below_drewN HB.out _⟩
theorem aat{w:World}{T N:Int}{ra:Option Addr}{rc:Nat}{R:List Ru}{op a b c:Int}(hr:aD w w.heap.size (.slice ra R.length rc) R)(hs:¬(0<=a/\a<N/\b=0/\c=0)):
 Calls Tryz.prog 29 #[.agg #[.int .i64 T,.int .i64 N,.slice ra R.length rc,.int .i64 op,.int .i64 a,.int .i64 b,.int .i64 c]] w fun e w'=>e= .returned (.tuple #[.nilIface,.bool false])/\Below w.heap.size w w':=by
 have hK:=o5 (T:=T) (N:=N) (op:=op) (a:=a) (b:=b) (c:=c) hr;obtain⟨W0,hW0⟩:∃W,w.alloc (.cells #[.int .i64 T,.int .i64 N,.slice ra R.length rc,.int .i64 op,.int .i64 a,.int .i64 b,.int .i64 c] 60)=W:=⟨_,rfl⟩;rw[hW0]at hK;have x1:=hK.x1;have x4:=hK.x4;have x5:=hK.x5;have x6:=hK.x6;have HB:Hid (Below w.heap.size w W0):=hK.below;have ia:=qV (w:=W0) (n:=a) (m:=N);cases hA:(decide (0<=a)&&decide (a<N)) with
 |false=>
  rw[hA]at ia;clear hK hr hs hA
  go_enter Tryz.func29,Tryz.ntmps29
  go_wp2_with (go_at_call 42;refine ia.mono ?_;rintro e w2 ⟨rfl,rfl⟩)
  refine bodyPost_ret (v:= .tuple #[.nilIface,.bool false]) (by simp[results,Tryz.results29,go_sem]) rfl ?_;exact⟨rfl,HB.out⟩
 |true=>
  rw[hA]at ia;simp only[Bool.and_eq_true,decide_eq_true_eq]at hA;by_cases hb:b=0
  ·subst hb
   have ec:(c==0)=false:=by
    have:c≠0:=fun hc=>hs ⟨hA.1,hA.2,rfl,hc⟩;simpa using this
   clear hK hr hs hA
   go_enter Tryz.func29,Tryz.ntmps29
   go_wp2_with (go_at_call 42;refine ia.mono ?_;rintro e w2 ⟨rfl,rfl⟩)
   refine bodyPost_ret (v:= .tuple #[.nilIface,.bool false]) (by simp[results,Tryz.results29,go_sem]) rfl ?_;exact⟨rfl,HB.out⟩
  ·have eb:(b==0)=false:=by simpa using hb
   clear hK hr hs hA hb
   go_enter Tryz.func29,Tryz.ntmps29
   go_wp2_with (go_at_call 42;refine ia.mono ?_;rintro e w2 ⟨rfl,rfl⟩)
   refine bodyPost_ret (v:= .tuple #[.nilIface,.bool false]) (by simp[results,Tryz.results29,go_sem]) rfl ?_;exact⟨rfl,HB.out⟩
theorem Sl{f:Ru->Bool}{R:List Ru}{k:Nat}(hk:k<R.length):(R.take (k+1)).any f=((R.take k).any f||f (R.getD k (0,[]))):=by
 have e:R.getD k (0,[])=R[k]:=by simp[List.getD,hk]
 rw[List.take_succ_eq_append_getElem hk,List.any_append,e];simp
theorem Sm{f:Ru->Bool}{R:List Ru}{k:Nat}(hk:k<R.length):(R.take (k+1)).all f=((R.take k).all f&&f (R.getD k (0,[]))):=by
 have e:R.getD k (0,[])=R[k]:=by simp[List.getD,hk]
 rw[List.take_succ_eq_append_getElem hk,List.all_append,e];simp
theorem aau{w:World}{T N:Int}{ra:Option Addr}{rc:Nat}{R:List Ru}{op a:Int}(hr:aD w w.heap.size (.slice ra R.length rc) R)(hl:R.length<=1000)(ha:0<=a/\a<N):
 Calls Tryz.prog 29 #[.agg #[.int .i64 T,.int .i64 N,.slice ra R.length rc,.int .i64 op,.int .i64 a,.int .i64 0,.int .i64 0]] w fun e w'=> ∃cv,e= .returned (.tuple #[cv,.bool (oQ R a)])/\(oQ R a=true->cv= .iface 114 (.agg #[.int .i64 T,.int .i64 N,.slice ra R.length rc,.int .i64 op,.int .i64 a,.int .i64 0,.int .i64 0]))/\Below w.heap.size w w':=by
 have hK:=o5 (T:=T) (N:=N) (op:=op) (a:=a) (b:=0) (c:=0) hr;obtain⟨W0,hW0⟩:∃W,w.alloc (.cells #[.int .i64 T,.int .i64 N,.slice ra R.length rc,.int .i64 op,.int .i64 a,.int .i64 0,.int .i64 0] 60)=W:=⟨_,rfl⟩;rw[hW0]at hK;obtain⟨W1,hW1⟩:∃W,W0.alloc (.cells #[.int .i64 T,.int .i64 N,.slice ra R.length rc,.int .i64 op,.int .i64 a,.int .i64 0,.int .i64 0] 114)=W:=⟨_,rfl⟩;have hB1:Below W0.heap.size W0 W1:=by rw[<-hW1];exact(Below.refl _ _).alloc (Nat.le_refl _) _
 have hblk:W1.heap[W0.heap.size]?=some (.cells #[.int .i64 T,.int .i64 N,.slice ra R.length rc,.int .i64 op,.int .i64 a,.int .i64 0,.int .i64 0] 114 (0,0)):=by rw[<-hW1];exact heap_alloc_new _ _
 have x0:=hK.x0;have x1:=hK.x1;have x2:=hK.x2;have x3:=hK.x3;have x4:=hK.x4;have x5:=hK.x5;have x6:=hK.x6;have y2:=(hK.next hB1).x2;rw[<-hW1]at y2;have HW1:Hid (W0.alloc (.cells #[.int .i64 T,.int .i64 N,.slice ra R.length rc,.int .i64 op,.int .i64 a,.int .i64 0,.int .i64 0] 114)=W1):=hW1;have lS:Hid (gP w T N ra rc R op a 0 0 W1):=hK.next hB1;have HX:Hid (∀wq,Below W1.heap.size W1 wq->wq.heap[W0.heap.size]?=some (.cells #[.int .i64 T,.int .i64 N,.slice ra R.length rc,.int .i64 op,.int .i64 a,.int .i64 0,.int .i64 0] 114 (0,0))):=fun wq hq=>(hq.block _ (Array.getElem?_eq_some_iff.1 hblk).1).trans hblk;have ia:=qV (w:=W0) (n:=a) (m:=N);rw[decide_eq_true ha.1,decide_eq_true ha.2]at ia;have e0:((0:Int)==0)=true:=rfl;clear hK hr hB1 hblk ha hW1
 go_enter Tryz.func29,Tryz.ntmps29
 go_wp2_with (go_at_call 42;refine ia.mono ?_;rintro e w2 ⟨rfl,h2⟩;obtain rfl:W0=w2:=h2.symm;clear ia)
 obtain⟨xb,hxb⟩:∃x,W0.heap.size=x:=⟨_,rfl⟩;rw[HW1.out];rw[hxb]at HX⊢;clear x0 x1 x2 x3 x4 x5 x6 y2 hW0 HW1 hxb
 go_loopw [5,34] (fun s5 s34 wr=> ∃k:Nat,s5= .bool ((R.take k).any (gM a))/\s34= .int .i64 k/\k<=R.length/\(R.take k).all (fun r=> !(gM a r&&decide (r.2.length=1)))=true/\Below W1.heap.size W1 wr) (fun _ s _=>R.length-(intOf s).toNat)
 case atStart=>exact⟨0,rfl,rfl,Nat.zero_le _,rfl,Below.refl _ _⟩
 case round=>
  obtain⟨k,rfl,rfl,hk,hall,hB⟩:=hrel;have HB:Hid (Below W1.heap.size W1 wr):=hB;have Ep:Hid ((R.take k).all (fun r=> !(gM a r&&decide (r.2.length=1)))=true):=hall;have hKr:=lS.out.next hB;have pu:=HX.out wr hB;obtain⟨any,hany⟩:∃x,(R.take k).any (gM a)=x:=⟨_,rfl⟩;have Sn:Hid ((R.take k).any (gM a)=any):=hany;rw[hany];clear hany hall;by_cases hlt:k<R.length
  ·obtain⟨b0,o0,nX,qa,qc,hv,_,k1,k2,_⟩:=hKr.rules.jF hlt
   cases hv;obtain⟨⟨L,l⟩,hx⟩:∃x,R.getD k (0,[])=x:=⟨_,rfl⟩;rw[hx]at k1 k2;simp only at k1 k2;obtain⟨n,hn⟩:∃n,l.length=n:=⟨_,rfl⟩;rw[hn]at k2;have ze:Hid (R.getD k (0,[])=(L,l)/\l.length=n):=⟨hx,hn⟩;obtain⟨W2,hW2⟩:∃W,wr.alloc (.cells #[.int .i64 L,.slice qa n qc] 79)=W:=⟨_,rfl⟩;obtain⟨rb,hrb⟩:∃x,wr.heap.size=x:=⟨_,rfl⟩;have hB2:Below wr.heap.size wr W2:=by rw[<-hW2];exact(Below.refl _ _).alloc (Nat.le_refl _) _
   have hB2':Below W1.heap.size W1 W2:=HB.out.trans (hB2.mono HB.out.size);have r1:W2.cell? ⟨rb,1,none⟩=some (.slice qa n qc):=by rw[<-hW2,<-hrb];exact ah (heap_alloc_new _ _) rfl
   have hX2:=HX.out W2 hB2';have z0:W2.cell? ⟨xb,0,none⟩=some (.int .i64 T):=ah hX2 rfl;have z1:W2.cell? ⟨xb,1,none⟩=some (.int .i64 N):=ah hX2 rfl;have z2:W2.cell? ⟨xb,2,none⟩=some (.slice (some ⟨b0,o0,none⟩) R.length rc):=ah hX2 rfl;have z3:W2.cell? ⟨xb,3,none⟩=some (.int .i64 op):=ah hX2 rfl;have z4:W2.cell? ⟨xb,4,none⟩=some (.int .i64 a):=ah hX2 rfl;have z5:W2.cell? ⟨xb,5,none⟩=some (.int .i64 0):=ah hX2 rfl;have z6:W2.cell? ⟨xb,6,none⟩=some (.int .i64 0):=ah hX2 rfl;have be:=Mh (w:=W2) (T:=T) (N:=N) (op:=op) (a:=a) (b:=0) (c:=0) (lS.out.next hB2').all hlt;rw[hx]at be;have HB2:Hid (Below W1.heap.size W1 W2):=hB2';have HR1:Hid (W2.cell? ⟨rb,1,none⟩=some (.slice qa n qc)):=r1;have i0:(0:Int)<=(k:Int):=Int.natCast_nonneg _;have i1:(k:Int)<(R.length:Int):=by omega
   clear hx hn hB2 hB2' hX2 pu hKr r1 hB;cases hbe:gM a (L,l) with
   |false=>
    rw[hbe]at be;have mr:Hid (gM a (L,l)=false):=hbe;clear hbe
    go_wp2_with (go_at_call 45;refine be.mono ?_;rintro e w3 ⟨rfl,hB3⟩;clear be)
    go_roundw
    case rel=>
     refine⟨k+1,?_,by go_num,by omega,?_,HB2.out.trans (hB3.mono HB2.out.size)⟩
     ·rw[Sl hlt,Sn.out,ze.out.1,mr.out,Bool.or_false]
     ·rw[Sm hlt,Ep.out,ze.out.1,mr.out]
      rfl
    case measure=>simp[intOf];omega
   |true=>
    rw[hbe]at be;have mr:Hid (gM a (L,l)=true):=hbe;clear hbe;by_cases hn1:n=1
    ·have Il:Hid (n=1):=hn1
     have en:((n:Int)==1)=true:=by rw[hn1];rfl
     clear hn1
     go_wp2_with
      (go_at_call 45;refine be.mono ?_;rintro e w3 ⟨rfl,hB3⟩;clear be
       have q1:=(hB3.cell (World.block_lt_of_cell? _ _ HR1.out)).trans HR1.out)
     have hF:oQ R a=false:=by
      unfold oQ
      have:(R.all fun r=> !(gM a r&&decide (r.2.length=1)))=false:=by
       rw[List.all_eq_false];refine⟨(L,l),?_,?_⟩
       ·rw[<-ze.out.1]
        simp[List.getD,hlt]
       ·rw[mr.out,ze.out.2,Il.out]
        simp
      rw[this,Bool.and_false]
     refine bodyPost_ret (v:= .tuple #[.nilIface,.bool false]) (by simp[results,Tryz.results29,go_sem]) rfl ?_;refine⟨_,by rw[hF],fun h=> ?_,lS.out.below.trans ((HB2.out.trans (hB3.mono HB2.out.size)).mono (Nat.le_trans (by omega) lS.out.size))⟩;rw[hF]at h;cases h
    ·have en:((n:Int)==1)=false:=by
      have:(n:Int)≠1:=by omega
      simpa using this
     have Il:Hid (¬n=1):=hn1;clear hn1
     go_wp2_with
      (go_at_call 45;refine be.mono ?_;rintro e w3 ⟨rfl,hB3⟩;clear be
       have q1:=(hB3.cell (World.block_lt_of_cell? _ _ HR1.out)).trans HR1.out)
     go_roundw
     case rel=>
      refine⟨k+1,?_,by go_num,by omega,?_,HB2.out.trans (hB3.mono HB2.out.size)⟩
      ·rw[Sl hlt,ze.out.1,mr.out,Bool.or_true]
      ·rw[Sm hlt,Ep.out,ze.out.1,mr.out,ze.out.2]
       simp[Il.out]
     case measure=>simp[intOf];omega
  ·have hkk:k=R.length:=by omega
   have hL:oQ R a=any:=by
    unfold oQ;have h1:=Sn.out;have h2:=Ep.out;rw[hkk,List.take_length]at h1 h2;rw[h1,h2,Bool.and_true]
   have HL:Hid (oQ R a=any):=hL;have z0:wr.cell? ⟨xb,0,none⟩=some (.int .i64 T):=ah pu rfl;have z1:wr.cell? ⟨xb,1,none⟩=some (.int .i64 N):=ah pu rfl;have z2:wr.cell? ⟨xb,2,none⟩=some (.slice ra R.length rc):=ah pu rfl;have z3:wr.cell? ⟨xb,3,none⟩=some (.int .i64 op):=ah pu rfl;have z4:wr.cell? ⟨xb,4,none⟩=some (.int .i64 a):=ah pu rfl;have z5:wr.cell? ⟨xb,5,none⟩=some (.int .i64 0):=ah pu rfl;have z6:wr.cell? ⟨xb,6,none⟩=some (.int .i64 0):=ah pu rfl;have MB:Hid (Below w.heap.size w wr):=hKr.below;clear pu hKr hB hkk hL
   go_wp2_with fail
   refine bodyPost_ret (v:= .tuple #[.iface 114 (.agg #[.int .i64 T,.int .i64 N,.slice ra R.length rc,.int .i64 op,.int .i64 a,.int .i64 0,.int .i64 0]),.bool any]) (by simp[results,Tryz.results29,go_sem]) rfl ?_;exact⟨_,by rw[HL.out],fun _=>rfl,MB.out⟩
theorem aav{w:World}{mb g N B:Nat}{Y:List Bool}{t:Bool}{v:Int}(hm:w.cell? ⟨mb,0,none⟩=some (.slice (some ⟨g,0,none⟩) N N))(hY:fO w B g N Y)(hv:t=false->0<=v/\v<(N:Int)):
 Calls Tryz.prog 48 #[.agg #[.bool t,.int .i64 v],.pointer (some ⟨mb,0,none⟩)] w fun e w'=>e= .returned (.bool (!(t||Y.getD v.toNat false)))/\Below w.heap.size w w':=by
 obtain⟨W1,hW1⟩:∃W,w.alloc (.cells #[.bool t,.int .i64 v] 104)=W:=⟨_,rfl⟩;have hB1:Below w.heap.size w W1:=by rw[<-hW1];exact(Below.refl _ _).alloc (Nat.le_refl _) _
 have d0:W1.cell? ⟨w.heap.size,0,none⟩=some (.bool t):=by rw[<-hW1];exact ah (heap_alloc_new _ _) rfl
 have d1:W1.cell? ⟨w.heap.size,1,none⟩=some (.int .i64 v):=by rw[<-hW1];exact ah (heap_alloc_new _ _) rfl
 have m1:=(hB1.cell (World.block_lt_of_cell? _ _ hm)).trans hm;have HB:Hid (Below w.heap.size w W1):=hB1;have Be:=hY.below hB1;clear hB1 hY hm;cases t with
 |true=>
  clear Be hv
  go_enter Tryz.func48,Tryz.ntmps48
  go_wp2_with fail
  go_ret;exact⟨rfl,HB.out⟩
 |false=>
  obtain⟨i0,i1⟩:=hv rfl;obtain⟨q,rfl⟩:∃q:Nat,v=q:=⟨v.toNat,by omega⟩;have c1:=(Be.cell (m:=q) (by omega)).1;rw[Int.toNat_natCast];obtain⟨y,hy⟩:∃y,Y.getD q false=y:=⟨_,rfl⟩;rw[hy]at c1⊢;clear Be hy hv
  go_enter Tryz.func48,Tryz.ntmps48
  go_wp2_with fail
  go_ret;exact⟨rfl,HB.out⟩
theorem aaw{w:World}{mb g N B:Nat}{Y:List Bool}{lv:Value}{l:List Sy}(hl:bK w lv l)(hs:l.length<=1000)(hm:w.cell? ⟨mb,0,none⟩=some (.slice (some ⟨g,0,none⟩) N N))(hY:fO w B g N Y)(hv:∀j,j<l.length->(l.getD j (false,0)).1=false->0<=(l.getD j (false,0)).2/\(l.getD j (false,0)).2<(N:Int)):
 Calls Tryz.prog 69 #[lv,.func (.func 48) #[] #[.pointer (some ⟨mb,0,none⟩)]] w fun e w'=>(∃r:Int,e= .returned (.int .i64 r)/\(0<=r↔dR Y l=false))/\Below w.heap.size w w':=by
 obtain⟨la,lc,hlv,_⟩:=hl.1;subst hlv;have HL:Hid (bK w (.slice la l.length lc) l):=hl;have HM:Hid (w.cell? ⟨mb,0,none⟩=some (.slice (some ⟨g,0,none⟩) N N)/\fO w B g N Y):=⟨hm,hY⟩;have HV:Hid (∀j,j<l.length->(l.getD j (false,0)).1=false->0<=(l.getD j (false,0)).2/\(l.getD j (false,0)).2<(N:Int)):=hv;clear hl hm hY hv
 go_enter Tryz.func69,Tryz.ntmps69
 go_wp2_with fail
 go_loopw [8] (fun s8 wr=> ∃k:Nat,s8= .int .i64 k/\k<=l.length/\dR Y (l.take k)=true/\Below w.heap.size w wr) (fun s _=>l.length-(intOf s).toNat)
 case atStart=>exact⟨0,rfl,Nat.zero_le _,rfl,Below.refl _ _⟩
 case round=>
  obtain⟨k,rfl,hk,hall,hB⟩:=hrel;have HB:Hid (Below w.heap.size w wr):=hB;have HA:Hid (dR Y (l.take k)=true):=hall;by_cases hlt:k<l.length
  ·obtain⟨b,o,c,hv,c1,c2⟩:=(HL.out.same (iT hB)).2 k hlt
   cases hv;have hvk:=HV.out k hlt;have hat:=Pq Y l k hlt;obtain⟨⟨t,v⟩,hx⟩:∃x,l.getD k (false,0)=x:=⟨_,rfl⟩;rw[hx]at c1 c2 hvk hat;simp only at c1 c2 hvk hat;rw[HA.out,Bool.true_and]at hat;have mn:=aav (w:=wr) (t:=t) (v:=v) ((hB.cell (World.block_lt_of_cell? _ _ HM.out.1)).trans HM.out.1) (HM.out.2.below hB) hvk;obtain⟨y,hy⟩:∃y,(t||Y.getD v.toNat false)=y:=⟨_,rfl⟩;rw[hy]at mn hat;have HT:Hid (dR Y (l.take (k+1))=y):=hat;have i0:(0:Int)<=(k:Int):=Int.natCast_nonneg _;have i1:(k:Int)<(l.length:Int):=by omega
   clear hx hvk hat hB hall hy;cases y with
   |true=>
    go_wp2_with (go_at_call 48;refine mn.mono ?_;rintro e w2 ⟨rfl,hB2⟩;clear mn)
    go_roundw
    case rel=>exact⟨k+1,by go_num,by omega,HT.out,HB.out.trans (hB2.mono HB.out.size)⟩
    case measure=>simp[intOf];omega
   |false=>
    go_wp2_with (go_at_call 48;refine mn.mono ?_;rintro e w2 ⟨rfl,hB2⟩;clear mn)
    go_ret;refine⟨⟨k,rfl,fun _=> ?_,fun _=>i0⟩,HB.out.trans (hB2.mono HB.out.size)⟩;cases h:dR Y l with
    |false=>rfl
    |true=>
     have h2:=HT.out;unfold dR at h h2;rw[List.all_eq_true]at h
     have:((l.take (k+1)).all fun s=>s.1||Y.getD s.2.toNat false)=true:=by
      rw[List.all_eq_true];exact fun x hx=>h x (List.mem_of_mem_take hx)
     rw[this]at h2;cases h2
  ·have hkk:k=l.length:=by omega
   clear hB hall
   go_wp2_with fail
   go_ret;have h:=HA.out;rw[hkk,List.take_length]at h;exact⟨⟨-1,rfl,fun h=>by omega,fun h'=>by rw[h]at h';cases h'⟩,HB.out⟩
theorem aax{w:World}{mb g N B:Nat}{Y:List Bool}{lv:Value}{l:List Sy}(hl:bK w lv l)(hs:l.length<=1000)(hm:w.cell? ⟨mb,0,none⟩=some (.slice (some ⟨g,0,none⟩) N N))(hY:fO w B g N Y)(hv:∀j,j<l.length->(l.getD j (false,0)).1=false->0<=(l.getD j (false,0)).2/\(l.getD j (false,0)).2<(N:Int)):
 Calls Tryz.prog 49 #[lv,.func (.func 48) #[] #[.pointer (some ⟨mb,0,none⟩)]] w fun e w'=>e= .returned (.bool (!dR Y l))/\Below w.heap.size w w':=by
 have ix:=aaw hl hs hm hY hv;clear hl hs hm hY hv;cases hA:dR Y l with
 |false=>
  go_enter Tryz.func49,Tryz.ntmps49
  go_wp2_with (go_at_call 69;refine ix.mono ?_;rintro e w1 ⟨⟨r,rfl,hr⟩,hB⟩;have h0:0<=r:=hr.2 hA;clear hr)
  go_ret;exact⟨rfl,hB⟩
 |true=>
  go_enter Tryz.func49,Tryz.ntmps49
  go_wp2_with (go_at_call 69;refine ix.mono ?_;rintro e w1 ⟨⟨r,rfl,hr⟩,hB⟩;have h0:decide (0<=r)=false:=decide_eq_false (fun h=>by rw[hr.1 h]at hA;cases hA);clear hr)
  go_ret;exact⟨rfl,hB⟩
def xC(n e:Int):Bool:=decide (0<=n/\n<e)
theorem Iq{w:World}{n e:Int}:
 Calls Tryz.prog 39 #[.int .i64 n,.int .i64 e] w fun r w'=>r= .returned (.bool (xC n e))/\w'=w:=by
 by_cases h1:0<=n
 ·by_cases h2:n<e
  ·have HD:Hid (xC n e=true):=decide_eq_true ⟨h1,h2⟩
   go_enter Tryz.func39,Tryz.ntmps39
   go_wp2_with fail
   go_ret;exact⟨by rw[HD.out];rfl,rfl⟩
  ·have HD:Hid (xC n e=false):=decide_eq_false (by omega)
   go_enter Tryz.func39,Tryz.ntmps39
   go_wp2_with fail
   go_ret;exact⟨by rw[HD.out];rfl,rfl⟩
 ·have HD:Hid (xC n e=false):=decide_eq_false (by omega)
  go_enter Tryz.func39,Tryz.ntmps39
  go_wp2_with fail
  go_ret;exact⟨by rw[HD.out];rfl,rfl⟩
theorem aay{w:World}{T N v:Int}{rv:Value}{t:Bool}{ra:Option Addr}{rl rc:Nat}(bW:rv= .slice ra rl rc):
 Calls Tryz.prog 40 #[.agg #[.int .i64 T,.int .i64 N,rv],.agg #[.bool t,.int .i64 v]] w fun r w'=>r= .returned (.bool (mO T N (t,v)))/\Below w.heap.size w w':=by
 subst bW;cases t with
 |true=>
  have HD:Hid (mO T N (true,v)=xC v T):=rfl
  go_enter Tryz.func40,Tryz.ntmps40
  go_wp2_with (go_at_call 39;refine Iq.mono ?_;rintro e w2 ⟨rfl,rfl⟩)
  go_ret;exact⟨by rw[HD.out];rfl,((Below.refl _ _).alloc (Nat.le_refl _) _).alloc (by simp) _⟩
 |false=>
  have HD:Hid (mO T N (false,v)=xC v N):=rfl
  go_enter Tryz.func40,Tryz.ntmps40
  go_wp2_with (go_at_call 39;refine Iq.mono ?_;rintro e w2 ⟨rfl,rfl⟩)
  go_ret;exact⟨by rw[HD.out];rfl,((Below.refl _ _).alloc (Nat.le_refl _) _).alloc (by simp) _⟩
theorem aaz{w:World}{T N L:Int}{rv:Value}{qa ra:Option Addr}{qc rl rc:Nat}{Rt:List Sy}(bW:rv= .slice ra rl rc)(hR:iq w w.heap.size qa Rt):
 Calls Tryz.prog 25 #[.agg #[.int .i64 T,.int .i64 N,rv],.agg #[.int .i64 L,.slice qa Rt.length qc]] w fun r w'=>r= .returned (.bool (kz T N (L,Rt)))/\Below w.heap.size w w':=by
 subst bW;by_cases hh:0<=L/\L<N
 ·have e1:xC L N=true:=decide_eq_true hh
  have call:=Iq (w:=(w.alloc (.cells #[.int .i64 T,.int .i64 N,.slice ra rl rc] 24)).alloc (.cells #[.int .i64 L,.slice qa Rt.length qc] 79)) (n:=L) (e:=N);rw[e1]at call;by_cases h8:Rt.length<=8
  ·have HD:Hid (kz T N (L,Rt)=Rt.all (mO T N)):=by show kz T N (L,Rt)=_;simp[kz,hh.1,hh.2,h8]
   have HR:Hid (iq w w.heap.size qa Rt):=hR;clear hR e1 hh
   go_enter Tryz.func25,Tryz.ntmps25
   go_wp2_with (go_at_call 39;refine call.mono ?_;rintro e w2 ⟨rfl,rfl⟩)
   go_loopw [22] (fun k wr=> ∃i:Nat,k= .int .i64 i/\i<=Rt.length/\(Rt.take i).all (mO T N)=true/\Below (w.heap.size+2) ((w.alloc (.cells #[.int .i64 T,.int .i64 N,.slice ra rl rc] 24)).alloc (.cells #[.int .i64 L,.slice qa Rt.length qc] 79)) wr) (fun k _=>Rt.length-(intOf k).toNat)
   case atStart=>exact⟨0,rfl,Nat.zero_le _,rfl,Below.refl _ _⟩
   case round=>
    obtain⟨i,rfl,hi,hall,hB⟩:=hrel;have HI:Hid ((Rt.take i).all (mO T N)=true):=hall;have HB2:Hid (Below (w.heap.size+2) ((w.alloc (.cells #[.int .i64 T,.int .i64 N,.slice ra rl rc] 24)).alloc (.cells #[.int .i64 L,.slice qa Rt.length qc] 79)) wr):=hB;have HB:Hid (Below w.heap.size w wr):=(((Below.refl _ _).alloc (Nat.le_refl _) _).alloc (by simp) _).trans (hB.mono (by omega));have hsz:w.heap.size+2<=wr.heap.size:=by have:=hB.size;simp at this;omega
    have b0:wr.cell? ⟨w.heap.size,0,none⟩=some (.int .i64 T):=(hB.cell (by simp)).trans (by simp[go_sem]);have b1:wr.cell? ⟨w.heap.size,1,none⟩=some (.int .i64 N):=(hB.cell (by simp)).trans (by simp[go_sem]);have b2:wr.cell? ⟨w.heap.size,2,none⟩=some (.slice ra rl rc):=(hB.cell (by simp)).trans (by simp[go_sem]);clear hall hB call;by_cases hi':i<Rt.length
    ·obtain⟨b',o',eF,hb',k3,k4⟩:=HR.out i hi'
     subst eF;obtain⟨⟨t,v⟩,hsy⟩:∃x,Rt.getD i (false,0)=x:=⟨_,rfl⟩;rw[hsy]at k3 k4;have Er:wr.cell? ⟨b',o'+i*2,none⟩=some (.bool t):=(HB.out.cell (p:=⟨b',o'+i*2,none⟩) hb').trans k3;have yT:wr.cell? ⟨b',o'+i*2+1,none⟩=some (.int .i64 v):=by rw[Nat.add_assoc];exact(HB.out.cell (p:=⟨b',o'+(i*2+1),none⟩) hb').trans k4
     have HT:Hid ((Rt.take (i+1)).all (mO T N)=mO T N (t,v)):=by
      show (Rt.take (i+1)).all (mO T N)=_;rw[Pt _ Rt (false,0) i hi',HI.out,hsy,Bool.true_and]
     have HF:Hid (mO T N (t,v)=false->Rt.all (mO T N)=false):=fun h=>Pw _ Rt (false,0) i hi' (by rw[hsy];exact h);have n0:(wr.alloc (.cells #[.bool t,.int .i64 v] 104)).cell? ⟨w.heap.size,0,none⟩=some (.int .i64 T):=by rw[World.cell?_alloc_past _ _ _ (by omega)];exact b0
     have n1:(wr.alloc (.cells #[.bool t,.int .i64 v] 104)).cell? ⟨w.heap.size,1,none⟩=some (.int .i64 N):=by rw[World.cell?_alloc_past _ _ _ (by omega)];exact b1
     have n2:(wr.alloc (.cells #[.bool t,.int .i64 v] 104)).cell? ⟨w.heap.size,2,none⟩=some (.slice ra rl rc):=by rw[World.cell?_alloc_past _ _ _ (by omega)];exact b2
     have sym:=aay (w:=wr.alloc (.cells #[.bool t,.int .i64 v] 104)) (T:=T) (N:=N) (t:=t) (v:=v) (ra:=ra) (rl:=rl) (rc:=rc) rfl;clear k3 k4 hsy b0 b1 b2;cases hs:mO T N (t,v) with
     |true=>
      rw[hs]at sym HT;clear hs HF
      go_wp2_with (go_at_call 40;refine sym.mono ?_;rintro e w2 ⟨rfl,hB2⟩)
      go_roundw
      case rel=>exact⟨i+1,by go_num,by omega,HT.out,(HB2.out.alloc (by omega) _).trans (hB2.mono (by simp;omega))⟩
      case measure=>simp[intOf];omega
     |false=>
      rw[hs]at sym;have HF':Hid (Rt.all (mO T N)=false):=HF.out hs;clear hs HF HT
      go_wp2_with (go_at_call 40;refine sym.mono ?_;rintro e w2 ⟨rfl,hB2⟩)
      go_ret;exact⟨by rw[HD.out,HF'.out];rfl,(HB.out.alloc (by omega) _).trans (hB2.mono (by simp;omega))⟩
    ·have HZ:Hid (Rt.all (mO T N)=true):=by
      show Rt.all (mO T N)=true;rw[<-Pv _ Rt i (by omega)];exact HI.out
     go_wp2_with fail
     go_ret;exact⟨by rw[HD.out,HZ.out];rfl,HB.out⟩
  ·have HD:Hid (kz T N (L,Rt)=false):=by show kz T N (L,Rt)=_;simp[kz,h8]
   clear hR e1 hh
   go_enter Tryz.func25,Tryz.ntmps25
   go_wp2_with (go_at_call 39;refine call.mono ?_;rintro e w2 ⟨rfl,rfl⟩)
   go_ret;exact⟨by rw[HD.out];rfl,((Below.refl _ _).alloc (Nat.le_refl _) _).alloc (by simp) _⟩
 ·have e1:xC L N=false:=decide_eq_false hh
  have HD:Hid (kz T N (L,Rt)=false):=by show kz T N (L,Rt)=_;simp[kz];omega
  have call:=Iq (w:=(w.alloc (.cells #[.int .i64 T,.int .i64 N,.slice ra rl rc] 24)).alloc (.cells #[.int .i64 L,.slice qa Rt.length qc] 79)) (n:=L) (e:=N);rw[e1]at call;clear hR e1 hh
  go_enter Tryz.func25,Tryz.ntmps25
  go_wp2_with (go_at_call 39;refine call.mono ?_;rintro e w2 ⟨rfl,rfl⟩)
  go_ret;exact⟨by rw[HD.out];rfl,((Below.refl _ _).alloc (Nat.le_refl _) _).alloc (by simp) _⟩
theorem sQ{w:World}{T N:Int}{rv:Value}{R:List Ru}(hr:aD w w.heap.size rv R):
 Calls Tryz.prog 13 #[.agg #[.int .i64 T,.int .i64 N,rv]] w fun e w'=>e= .returned (.bool (aZ T N R))/\Below w.heap.size w w':=by
 obtain⟨ra,rc,bW⟩:=hr.1;by_cases hh:Ac T N R.length=true
 ·have hh':=hh
  simp only[Ac,decide_eq_true_eq]at hh';obtain⟨h1,h2,h3,h4,h5⟩:=hh';have HR:Hid (aD w w.heap.size rv R):=hr;have HM:Hid (aZ T N R=R.all (kz T N)):=by show aZ T N R=_;simp[aZ,hh]
  clear hr hh;subst bW
  go_enter Tryz.func13,Tryz.ntmps13
  go_wp2_with fail
  go_loopw [28] (fun i wr=> ∃j:Nat,i= .int .i64 j/\j<=R.length/\(R.take j).all (kz T N)=true/\Below (w.heap.size+1) (w.alloc (.cells #[.int .i64 T,.int .i64 N,.slice ra R.length rc] 24)) wr)
   (fun i _=>R.length-(intOf i).toNat)
  case atStart=>exact⟨0,rfl,Nat.zero_le _,rfl,Below.refl _ _⟩
  case round=>
   obtain⟨j,rfl,hj,hall,hB⟩:=hrel;have HA:Hid ((R.take j).all (kz T N)=true):=hall;have b0:wr.cell? ⟨w.heap.size,0,none⟩=some (.int .i64 T):=(hB.cell (by simp)).trans (by simp[go_sem]);have b1:wr.cell? ⟨w.heap.size,1,none⟩=some (.int .i64 N):=(hB.cell (by simp)).trans (by simp[go_sem]);have b2:wr.cell? ⟨w.heap.size,2,none⟩=some (.slice ra R.length rc):=(hB.cell (by simp)).trans (by simp[go_sem]);have HB:Hid (Below w.heap.size w wr):=((Below.refl _ _).alloc (Nat.le_refl _) _).trans (hB.mono (by omega));have HB1:Hid (Below (w.heap.size+1) (w.alloc (.cells #[.int .i64 T,.int .i64 N,.slice ra R.length rc] 24)) wr):=hB;have hsz:=hB.size;simp only[World.size_alloc]at hsz;clear hall hB;by_cases hlt:j<R.length
   ·obtain⟨b,o,rc',qa,qc,hv,hb,k1,k2,_,k3⟩:=HR.out.2 j hlt
    cases hv;obtain⟨⟨L,Rt⟩,gF⟩:∃x,R.getD j (0,[])=x:=⟨_,rfl⟩;rw[gF]at k1 k2 k3;have k1':=(HB.out.cell (p:=⟨b,o+j*2,none⟩) hb).trans k1;have k2':wr.cell? ⟨b,o+j*2+1,none⟩=some (.slice qa Rt.length qc):=by rw[Nat.add_assoc];exact(HB.out.cell (p:=⟨b,o+(j*2+1),none⟩) hb).trans k2
    have HU:Hid (R.getD j (0,[])=(L,Rt)):=gF;have jX:iq w w.heap.size qa Rt:=k3;have n0:(wr.alloc (.cells #[.int .i64 L,.slice qa Rt.length qc] 79)).cell? ⟨w.heap.size,0,none⟩=some (.int .i64 T):=by rw[World.cell?_alloc_past _ _ _ (by omega)];exact b0
    have n1:(wr.alloc (.cells #[.int .i64 L,.slice qa Rt.length qc] 79)).cell? ⟨w.heap.size,1,none⟩=some (.int .i64 N):=by rw[World.cell?_alloc_past _ _ _ (by omega)];exact b1
    have n2:(wr.alloc (.cells #[.int .i64 L,.slice qa Rt.length qc] 79)).cell? ⟨w.heap.size,2,none⟩=some (.slice (some ⟨b,o,none⟩) R.length rc):=by rw[World.cell?_alloc_past _ _ _ (by omega)];exact b2
    have Ir:=aaz (w:=wr.alloc (.cells #[.int .i64 L,.slice qa Rt.length qc] 79)) (T:=T) (N:=N) (L:=L) (rv:= .slice (some ⟨b,o,none⟩) R.length rc) (qa:=qa) (qc:=qc) (Rt:=Rt) rfl
     ((jX.below (HB.out.alloc (by omega) _)).mono (by simp;omega))
    clear k1 k2 k3 gF b0 b1 b2 jX;cases hs:kz T N (L,Rt) with
    |true=>
     rw[hs]at Ir
     have HJ:Hid ((R.take (j+1)).all (kz T N)=true):=by
      show (R.take (j+1)).all (kz T N)=true;rw[Pt _ R (0,[]) j hlt,HA.out,HU.out,hs];rfl
     clear hs
     go_wp2_with (go_at_call 25;refine Ir.mono ?_;rintro e w2 ⟨rfl,hB2⟩)
     go_roundw
     case rel=>exact⟨j+1,by go_num,by omega,HJ.out,(HB1.out.alloc (by omega) _).trans (hB2.mono (by simp;omega))⟩
     case measure=>simp[intOf];omega
    |false=>
     rw[hs]at Ir;have HJ:Hid (R.all (kz T N)=false):=Xz hlt (by rw[HU.out];exact hs);clear hs
     go_wp2_with (go_at_call 25;refine Ir.mono ?_;rintro e w2 ⟨rfl,hB2⟩)
     go_ret;exact⟨by rw[HM.out,HJ.out];rfl,(HB.out.alloc (by omega) _).trans (hB2.mono (by simp;omega))⟩
   ·have HZ:Hid (aZ T N R=true):=by
     show aZ T N R=true;rw[HM.out,<-Pv _ R j (by omega)];exact HA.out
    go_wp2_with fail
    go_ret;exact⟨by rw[HZ.out];rfl,HB.out⟩
 ·have hm:aZ T N R=false:=by simp[aZ,hh]
  simp only[Ac,decide_eq_true_eq]at hh;subst bW;clear hr;rw[hm];clear hm;by_cases h1:T<0
  ·go_enter Tryz.func13,Tryz.ntmps13
   go_wp2_with fail
   go_ret;exact⟨rfl,(Below.refl _ _).alloc (Nat.le_refl _) _⟩
  by_cases h2:8<T
  ·go_enter Tryz.func13,Tryz.ntmps13
   go_wp2_with fail
   go_ret;exact⟨rfl,(Below.refl _ _).alloc (Nat.le_refl _) _⟩
  by_cases h3:N<1
  ·go_enter Tryz.func13,Tryz.ntmps13
   go_wp2_with fail
   go_ret;exact⟨rfl,(Below.refl _ _).alloc (Nat.le_refl _) _⟩
  by_cases h4:12<N
  ·go_enter Tryz.func13,Tryz.ntmps13
   go_wp2_with fail
   go_ret;exact⟨rfl,(Below.refl _ _).alloc (Nat.le_refl _) _⟩
  have h5:40<R.length:=by omega
  go_enter Tryz.func13,Tryz.ntmps13
  go_wp2_with fail
  go_ret;exact⟨rfl,(Below.refl _ _).alloc (Nat.le_refl _) _⟩
section
variable{ι:Type}[DecidableEq ι]
def iN(gr:ι)(X:ι->List Bool)(i:ι)(m:Nat):ι->List Bool:=if bit X i m then X else bH (bH X i m true) gr 0 true
def xD(gr i j:ι)(n:Nat)(X:ι->List Bool):ι->List Bool:=bO n (fun m Y=>if bit Y j m then iN gr Y i m else Y) X
omit [DecidableEq ι] in
structure Mark(c:dP ι)(gr:ι)(gb:Nat):Prop where
 v:c.V gr= .slice (some ⟨gb,0,none⟩) 1 1
 d:c.dom gr=some 1
variable{c:dP ι}{gr:ι}{gb:Nat}
theorem Iu{w:World}{B n m:Nat}{i:ι}{X:ι->List Bool}(h:Bt w B c X)(hM:Mark c gr gb)(hd:c.dom i=some n)(hm:m<n)(hi:i≠gr):
 Calls Tryz.prog 70 #[c.V i,.int .i64 m,.pointer (some ⟨gb,0,none⟩)] w fun e w'=>e= .returned (.tuple #[])/\Bt w' B c (iN gr X i m)/\Kept c.K w w':=by
 obtain⟨g,cap,hv,_,_⟩:=Bt.form h hd (by omega);obtain⟨c1,f1⟩:=Bt.cell h hd hv hm;obtain⟨c2,f2⟩:=Bt.cell (i:=gr) h hM.d hM.v (m:=0) (by omega);have hne:=Bt.apart (i:=i) (j:=gr) h hi hd hM.d hv hM.v;have j0:(0:Int)<=(m:Int):=Int.natCast_nonneg _;have j1:(m:Int)<(n:Int):=by omega
 have HB:Hid (Bt w B c X):=h;have HM:Hid (Mark c gr gb):=hM;have HV:Hid (c.V i= .slice (some ⟨g,0,none⟩) n cap):=hv;rw[hv];clear h hv hM;cases hb:bit X i m with
 |true=>
  rw[hb]at c1;have HP:Hid (iN gr X i m=X):=by show iN gr X i m=X;simp[iN,hb]
  clear hb
  go_enter Tryz.func70,Tryz.ntmps70
  go_wp2_with fail
  go_end0
  exact⟨rfl,by rw[HP.out];exact HB.out,Kept.refl _ _⟩
 |false=>
  rw[hb]at c1;have HP:Hid (iN gr X i m=bH (bH X i m true) gr 0 true):=by show iN gr X i m=_;simp[iN,hb]
  have s1:=Bt.set HB.out hd HV.out m true;obtain⟨c3,f3⟩:=Bt.cell (i:=gr) s1 HM.out.d HM.out.v (m:=0) (by omega);have s2:Hid _:=Bt.set (i:=gr) s1 HM.out.d HM.out.v 0 true;clear hb s1
  go_enter Tryz.func70,Tryz.ntmps70
  go_wp2_with fail
  go_end0
  exact⟨rfl,by rw[HP.out];exact s2.out,((Kept.refl _ _).setCell (dP.Kj (c:=c) hd HV.out) _).setCell (dP.Kj (c:=c) (i:=gr) HM.out.d HM.out.v) _⟩
def Does(c:dP ι)(gb B:Nat)(w0:World)(dn:Nat)(caps:Array Value)(R:List Ru)(f:Ru->(ι->List Bool)->ι->List Bool):Prop:=
 ∀k,k<R.length->∀(w1:World) (Y:ι->List Bool) (qa:Option Addr) (qc:Nat),Kept c.K w0 w1->Bt w1 B c Y->iq w1 B qa (R.getD k (0,[])).2->(R.getD k (0,[])).2.length<=qc->
  Calls Tryz.prog dn (#[.agg #[.int .i64 (R.getD k (0,[])).1,.slice qa (R.getD k (0,[])).2.length qc],.func (.func 70) #[] #[.pointer (some ⟨gb,0,none⟩)]]++caps) w1 fun e w'=>
   e= .returned (.tuple #[])/\Bt w' B c (f (R.getD k (0,[])) Y)/\Kept c.K w1 w'
def mY(R:List Ru)(f:Ru->(ι->List Bool)->ι->List Bool)(n:Nat)(X:ι->List Bool):ι->List Bool:=bO n (fun q=>f (R.getD q (0,[]))) X
theorem MC{w:World}{B dn:Nat}{caps:Array Value}{rv:Value}{X:ι->List Bool}{R:List Ru}{f:Ru->(ι->List Bool)->ι->List Bool}{Head:(ι->List Bool)->Prop}{mD:(ι->List Bool)->Nat}
 (h:Bt (w.alloc (.cells #[.bool true] 4)) B c X) (hB:B<=w.heap.size) (hM:Mark c gr w.heap.size) (hr:aD (w.alloc (.cells #[.bool true] 4)) B rv R) (h40:R.length<=1000) (hD:Does c w.heap.size B (w.alloc (.cells #[.bool true] 4)) dn caps R f)
 (Sq:∀args w,(callFunc dn args).run Tryz.prog w= .ok (.enter dn args) w) (hA:Head X) (hN:∀Y,Head Y->bit Y gr 0=true->Head (mY R f R.length (bH Y gr 0 false))/\mD (mY R f R.length (bH Y gr 0 false))<mD Y):
 Calls Tryz.prog 51 #[rv,.func (.func dn) #[] caps] w fun e w'=>
  e= .returned (.tuple #[])/\∃Y,Head Y/\bit Y gr 0=false/\Bt w' B c Y/\Kept c.K (w.alloc (.cells #[.bool true] 4)) w':=by
 obtain⟨ra,rc,bW⟩:=hr.1;subst bW;have HB:Hid (Bt (w.alloc (.cells #[.bool true] 4)) B c X):=h;have HM:Hid (Mark c gr w.heap.size):=hM;have HR:Hid (aD (w.alloc (.cells #[.bool true] 4)) B (.slice ra R.length rc) R):=hr;have HD:Hid (Does c w.heap.size B (w.alloc (.cells #[.bool true] 4)) dn caps R f):=hD;have HA:Hid (Head X):=hA;have HN:Hid (∀Y,Head Y->bit Y gr 0=true->Head (mY R f R.length (bH Y gr 0 false))/\mD (mY R f R.length (bH Y gr 0 false))<mD Y):=hN;have HEn:Hid (∀args w,(callFunc dn args).run Tryz.prog w= .ok (.enter dn args) w):=Sq;clear h hM hr hD hA hN Sq
 go_enter Tryz.func51,Tryz.ntmps51
 go_wp2_with fail
 go_loopg [] (mD X) (fun n wr=> ∃Y,n=mD Y/\Head Y/\Bt wr B c Y/\Kept c.K (w.alloc (.cells #[.bool true] 4)) wr)
 case atStart=>exact⟨X,rfl,HA.out,HB.out,Kept.refl _ _⟩
 case round=>
  obtain⟨Y,hn,Es,hBr,hKr⟩:=hrel;have LQ:Hid (gk=mD Y):=hn;have Sr:Hid (Head Y):=Es;have iC:Hid (Bt wr B c Y):=hBr;have mZ:Hid (Kept c.K (w.alloc (.cells #[.bool true] 4)) wr):=hKr;have hsz:w.heap.size+1<=wr.heap.size:=by have:=hKr.size;simpa using this
  obtain⟨c1,f1⟩:=Bt.cell (i:=gr) (n:=1) hBr HM.out.d HM.out.v (m:=0) (by omega);clear hn Es hBr hKr;cases hg:bit Y gr 0 with
  |true=>
   rw[hg]at c1;have hnx:=HN.out Y Sr.out hg;have Sv:Hid (Head (mY R f R.length (bH Y gr 0 false))/\mD (mY R f R.length (bH Y gr 0 false))<mD Y):=hnx;have hB1:=Bt.set (i:=gr) (n:=1) iC.out HM.out.d HM.out.v 0 false;have hK1:Kept c.K wr (wr.setCell ⟨w.heap.size,0,none⟩ (.bool false)):=(Kept.refl _ _).setCell (dP.Kj (c:=c) (i:=gr) HM.out.d HM.out.v) _;have fC:Hid (Kept c.K (w.alloc (.cells #[.bool true] 4)) (wr.setCell ⟨w.heap.size,0,none⟩ (.bool false))):=mZ.out.trans hK1;have HB1:Hid (Bt (wr.setCell ⟨w.heap.size,0,none⟩ (.bool false)) B c (bH Y gr 0 false)):=hB1;clear hg hnx hB1 hK1;obtain⟨w3,hw3⟩:∃w3,w3=wr:=⟨_,rfl⟩;subst hw3
   go_wp2_with fail
   clear c1 f1
   go_loopw [12] (fun s wq=> ∃k:Nat,s= .int .i64 k/\k<=R.length/\Bt wq B c (mY R f k (bH Y gr 0 false))/\Kept c.K (w.alloc (.cells #[.bool true] 4)) wq) (fun s _=>R.length-(intOf s).toNat)
   case atStart=>exact⟨0,rfl,Nat.zero_le _,HB1.out,fC.out⟩
   case round=>
    clear HB1 fC;obtain⟨k,rfl,hk,qp,Iw⟩:=hrel;obtain⟨Z,hZ⟩:∃Z,mY R f k (bH Y gr 0 false)=Z:=⟨_,rfl⟩;rw[hZ]at qp;have HZ:Hid (mY R f k (bH Y gr 0 false)=Z):=hZ;have vP:Hid (Bt wr B c Z):=qp;have ME:Hid (Kept c.K (w.alloc (.cells #[.bool true] 4)) wr):=Iw;have hsz:w.heap.size+1<=wr.heap.size:=by have:=Iw.size;simpa using this
    have Bf:=HR.out.below (Iw.below (fun b hb=>Bt.ge HB.out hb) (by simp;omega));clear hZ qp Iw;by_cases hlt:k<R.length
    ·obtain⟨b,o,rc',qa,qc,hv,hb,k1,k2,hqc,k3⟩:=Bf.2 k hlt
     cases hv;have hstep:mY R f (k+1) (bH Y gr 0 false)=f (R.getD k (0,[])) Z:=by rw[<-HZ.out];rfl
     have hK1:Kept c.K wr (wr.alloc (.cells #[.int .i64 (R.getD k (0,[])).1,.slice qa (R.getD k (0,[])).2.length qc] 79)):=(Kept.refl _ _).alloc _
     have call:=HD.out k hlt (wr.alloc (.cells #[.int .i64 (R.getD k (0,[])).1,.slice qa (R.getD k (0,[])).2.length qc] 79)) Z qa qc (ME.out.trans hK1) (Bt.alloc vP.out _)
      (iq.below (w:=wr) k3 (hK1.below (fun b hb=>Bt.ge HB.out hb) (by omega))) hqc
     have lS:Hid (Kept c.K (w.alloc (.cells #[.bool true] 4)) (wr.alloc (.cells #[.int .i64 (R.getD k (0,[])).1,.slice qa (R.getD k (0,[])).2.length qc] 79))):=ME.out.trans hK1;have HS:Hid (mY R f (k+1) (bH Y gr 0 false)=f (R.getD k (0,[])) Z):=hstep;obtain⟨⟨L,Rt⟩,hre⟩:∃x,R.getD k (0,[])=x:=⟨_,rfl⟩;rw[hre]at k1 k2 call lS HS;simp only at k1 k2 call lS;have k2':wr.cell? ⟨b,o+k*2+1,none⟩=some (.slice qa Rt.length qc):=by rw[Nat.add_assoc];exact k2
     have j0:(0:Int)<=(k:Int):=Int.natCast_nonneg _;have j1:(k:Int)<(R.length:Int):=by omega
     clear hstep hre k2 k3 hK1 Bf hqc
     go_wp2_with fail
     simp only[HEn.out];refine Calls.mono call ?_;rintro e w4 ⟨rfl,hB4,hK4⟩
     go_wp2_with fail
     go_roundw
     case rel=>exact⟨k+1,by go_num,by omega,by rw[HS.out];exact hB4,lS.out.trans hK4⟩
     case measure=>simp[intOf];omega
    ·obtain rfl:k=R.length:=by omega
     clear Bf
     go_wp2_with fail
     go_roundg (mD (mY R f R.length (bH Y gr 0 false)))
     case measure=>have:=Sv.out.2;rw[LQ.out];exact this
     case rel=>exact⟨_,rfl,Sv.out.1,by rw[HZ.out];exact vP.out,ME.out⟩
  |false=>
   rw[hg]at c1;have HG:Hid (bit Y gr 0=false):=hg;clear hg
   go_wp2_with fail
   go_end0
   exact⟨rfl,Y,Sr.out,HG.out,iC.out,mZ.out⟩
end
end Go.Proofs.YtpkmpkphfflpjaaGreat
