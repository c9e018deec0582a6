import Derived.Test.YthbifaoaiggooaaGreatDoorq18
set_option maxHeartbeats 6400000
set_option maxRecDepth 100000
namespace Go.Proofs.YthbifaoaiggooaaGreatDoor
open Go.RowKit
theorem Y8{w:World}{xb:Nat}{n N:Int}(x1:w.cell? ⟨xb,1,none⟩=some (.int .i64 N)):
 Calls Tryz.prog 157 #[.int .i64 n,.pointer (some ⟨xb,0,none⟩)] w λe w'=>e= .returned (.bool (decide (0<n)&&decide (n<N)))/\w'=w:=by
 by_cases h0:0<n
 ·have e0:decide (0<n)=true:=aT h0
  by_cases h1:n<N
  ·have e1:decide (n<N)=true:=aT h1
   rw[e0,e1]
   go_enter Tryz.func157,Tryz.ntmps157
   go_wp2_with fail
   go_ret;exact⟨rfl,rfl⟩
  ·have e1:decide (n<N)=false:=aU h1
   rw[e0,e1];clear h1
   go_enter Tryz.func157,Tryz.ntmps157
   go_wp2_with fail
   go_ret;exact⟨rfl,rfl⟩
 ·have e0:decide (0<n)=false:=aU h0
  rw[e0];clear h0
  go_enter Tryz.func157,Tryz.ntmps157
  go_wp2_with fail
  go_ret;exact⟨rfl,rfl⟩
theorem agU{w:World}{T N:Int}{ra:Option Addr}{rn rc:Nat}{op a b c:Int}:
 Calls Tryz.prog 135 #[.agg #[.int .i64 T,.int .i64 N,.slice ra rn rc,.int .i64 op,.int .i64 a,.int .i64 b,.int .i64 c]] w λe w'=>e= .returned (.tuple #[.iface 242 (.agg #[.int .i64 T,.int .i64 N,.slice ra rn rc,.int .i64 op,.int .i64 a,.int .i64 b,.int .i64 c]),.bool (decide (0<a)&&decide (a<N)&&(decide (0<b)&&decide (b<N))&&decide (c=0))])/\Below w.heap.size w w':=by
 obtain⟨W0,hW0⟩:=af (w.alloc (.cells #[.int .i64 T,.int .i64 N,.slice ra rn rc,.int .i64 op,.int .i64 a,.int .i64 b,.int .i64 c] 193));have HB:Hid (Below w.heap.size w W0):=by show Below _ _ _;rw[<-hW0];exact(ai _ _).alloc (ah _) _
 have hb:=heap_alloc_new w (.cells #[.int .i64 T,.int .i64 N,.slice ra rn rc,.int .i64 op,.int .i64 a,.int .i64 b,.int .i64 c] 193);rw[hW0]at hb;have x0:W0.cell? ⟨w.heap.size,0,none⟩=some (.int .i64 T):=aM hb rfl;have x1:W0.cell? ⟨w.heap.size,1,none⟩=some (.int .i64 N):=aM hb rfl;have x2:W0.cell? ⟨w.heap.size,2,none⟩=some (.slice ra rn rc):=aM hb rfl;have x3:W0.cell? ⟨w.heap.size,3,none⟩=some (.int .i64 op):=aM hb rfl;have x4:W0.cell? ⟨w.heap.size,4,none⟩=some (.int .i64 a):=aM hb rfl;have x5:W0.cell? ⟨w.heap.size,5,none⟩=some (.int .i64 b):=aM hb rfl;have x6:W0.cell? ⟨w.heap.size,6,none⟩=some (.int .i64 c):=aM hb rfl;have ia:=λk=>Y8 (w:=W0.drewN k) (xb:=w.heap.size) (n:=a) (N:=N) x1;have ib:=λk=>Y8 (w:=W0.drewN k) (xb:=w.heap.size) (n:=b) (N:=N) x1;clear hb;cases hA:(decide (0<a)&&decide (a<N)) with
 |false=>
  simp only[hA]at ia
  go_enter Tryz.func135,Tryz.ntmps135
  go_wp2_with fail
  go_big_quiet ((go_at_call 157;exact Calls.quiet_of_same (ia _)))
  go_wp2_with fail
  refine aH (v:= .tuple #[.iface 242 (.agg #[.int .i64 T,.int .i64 N,.slice ra rn rc,.int .i64 op,.int .i64 a,.int .i64 b,.int .i64 c]),.bool false]) (by simp[results,Tryz.results135,go_sem]) rfl ?_;exact⟨by simp,iR HB.out _⟩
 |true=>
  simp only[hA]at ia;cases hB:(decide (0<b)&&decide (b<N)) with
  |false=>
   simp only[hB]at ib
   go_enter Tryz.func135,Tryz.ntmps135
   go_wp2_with fail
   go_big_quiet ((go_at_call 157;first|with_reducible exact Calls.quiet_of_same (ia _)|with_reducible exact Calls.quiet_of_same (ib _)))
   go_wp2_with fail
   refine aH (v:= .tuple #[.iface 242 (.agg #[.int .i64 T,.int .i64 N,.slice ra rn rc,.int .i64 op,.int .i64 a,.int .i64 b,.int .i64 c]),.bool false]) (by simp[results,Tryz.results135,go_sem]) rfl ?_;exact⟨by simp,iR HB.out _⟩
  |true=>
   simp only[hB]at ib;by_cases hc:c=0
   ·have ec:(c==0)=true:=by simpa using hc
    have Q9:Hid (decide (c=0)=true):=aT hc;clear hc
    go_enter Tryz.func135,Tryz.ntmps135
    go_wp2_with fail
    go_big_quiet ((go_at_call 157;first|with_reducible exact Calls.quiet_of_same (ia _)|with_reducible exact Calls.quiet_of_same (ib _)))
    go_wp2_with fail
    refine aH (v:= .tuple #[.iface 242 (.agg #[.int .i64 T,.int .i64 N,.slice ra rn rc,.int .i64 op,.int .i64 a,.int .i64 b,.int .i64 c]),.bool true]) (by simp[results,Tryz.results135,go_sem]) rfl ?_;exact⟨by rw[Q9.out];rfl,iR HB.out _⟩
   ·have ec:(c==0)=false:=by simpa using hc
    have Q9:Hid (decide (c=0)=false):=aU hc;clear hc
    go_enter Tryz.func135,Tryz.ntmps135
    go_wp2_with fail
    go_big_quiet ((go_at_call 157;first|with_reducible exact Calls.quiet_of_same (ia _)|with_reducible exact Calls.quiet_of_same (ib _)))
    go_wp2_with fail
    refine aH (v:= .tuple #[.iface 242 (.agg #[.int .i64 T,.int .i64 N,.slice ra rn rc,.int .i64 op,.int .i64 a,.int .i64 b,.int .i64 c]),.bool false]) (by simp[results,Tryz.results135,go_sem]) rfl ?_;exact⟨by rw[Q9.out];rfl,iR HB.out _⟩
section
variable{w:World}{pb:Nat}{va vb vc:Value}{la lb lc:List Sy}
theorem Y9(p0:w.cell? ⟨pb,0,none⟩=some va)(p1:w.cell? ⟨pb,1,none⟩=some vb)(p2:w.cell? ⟨pb,2,none⟩=some vc)(ha:dh w va la)(hb:dh w vb lb)(hc:dh w vc lc)(hs:la.length+lb.length+lc.length<=100000):
 Calls Tryz.prog 238 #[.slice (some ⟨pb,0,none⟩) 3 3] w λe w'=> ∃a d,e= .returned (.slice a (la.length+lb.length+lc.length) d)/\w'.ownsRow w.heap.size 121 2 (.slice a (la.length+lb.length+lc.length) d) (la.length+lb.length+lc.length) (bD (la++lb++lc))/\Below w.heap.size w w':=by
 have hN:eG [(va,la.length,bD la),(vb,lb.length,bD lb),(vc,lc.length,bD lc)]=la.length+lb.length+lc.length:=by simp[eG];omega
 have hX:nD [(va,la.length,bD la),(vb,lb.length,bD lb),(vc,lc.length,bD lc)]=bD (la++lb++lc):=by simp[nD,YT]
 have cc:=QX (w:=w) (pb:=pb) (PL:=[(va,la.length,bD la),(vb,lb.length,bD lb),(vc,lc.length,bD lc)]) (λi hi=>by
  match i,hi with
  |0,_=>exact p0
  |1,_=>exact p1
  |2,_=>exact p2
  |i+3,hi=>exact absurd hi (by simp)) (λp hp=>by
  simp only[iW,wS,wY]at hp;rcases hp with rfl|rfl|rfl
  ·exact ha.row
  ·exact hb.row
  ·exact hc.row) (by rw[hN];exact hs) (by simp)
 rw[hN,hX]at cc;exact cc
theorem Ra(p0:w.cell? ⟨pb,0,none⟩=some va)(p1:w.cell? ⟨pb,1,none⟩=some vb)(ha:dh w va la)(hb:dh w vb lb)(hs:la.length+lb.length<=100000):
 Calls Tryz.prog 238 #[.slice (some ⟨pb,0,none⟩) 2 2] w λe w'=> ∃a d,e= .returned (.slice a (la.length+lb.length) d)/\w'.ownsRow w.heap.size 121 2 (.slice a (la.length+lb.length) d) (la.length+lb.length) (bD (la++lb))/\Below w.heap.size w w':=by
 have hN:eG [(va,la.length,bD la),(vb,lb.length,bD lb)]=la.length+lb.length:=by simp[eG]
 have hX:nD [(va,la.length,bD la),(vb,lb.length,bD lb)]=bD (la++lb):=by simp[nD,YT]
 have cc:=QX (w:=w) (pb:=pb) (PL:=[(va,la.length,bD la),(vb,lb.length,bD lb)]) (λi hi=>by
  match i,hi with
  |0,_=>exact p0
  |1,_=>exact p1
  |i+2,hi=>exact absurd hi (by simp)) (λp hp=>by
  simp only[iW,wS,wY]at hp;rcases hp with rfl|rfl
  ·exact ha.row
  ·exact hb.row) (by rw[hN];exact hs) (by simp)
 rw[hN,hX]at cc;exact cc
theorem Za(p0:w.cell? ⟨pb,0,none⟩=some va)(ha:dh w va la)(hs:la.length<=100000):
 Calls Tryz.prog 238 #[.slice (some ⟨pb,0,none⟩) 1 1] w λe w'=> ∃a d,e= .returned (.slice a la.length d)/\w'.ownsRow w.heap.size 121 2 (.slice a la.length d) la.length (bD la)/\Below w.heap.size w w':=by
 have hN:eG [(va,la.length,bD la)]=la.length:=by simp[eG]
 have hX:nD [(va,la.length,bD la)]=bD la:=by simp[nD]
 have cc:=QX (w:=w) (pb:=pb) (PL:=[(va,la.length,bD la)]) (λi hi=>by
  match i,hi with
  |0,_=>exact p0
  |i+1,hi=>exact absurd hi (by simp)) (λp hp=>by
  simp only[iW,wS,wY]at hp;rcases hp with rfl
  exact ha.row) (by rw[hN];exact hs) (by simp)
 rw[hN,hX]at cc;exact cc
end
theorem agV{w:World}{t:Bool}{v:Int}:dh (w.alloc (.cells #[.bool t,.int .i64 v] 121)) (.slice (some ⟨w.heap.size,0,none⟩) 1 1) [(t,v)]:=by
 have hb:=heap_alloc_new w (.cells #[.bool t,.int .i64 v] 121);refine⟨⟨_,_,rfl,ah _⟩,λj hj=> ?_⟩;have:j=0:=by simp at hj;omega
 subst this;exact⟨w.heap.size,0,1,rfl,aM (i:=0) hb rfl,aM (i:=1) hb rfl⟩
theorem Zc{w:World}{T N:Int}{ra:Option Addr}{rc k:Nat}{op a b c:Int}{R:List Ru}(hr:aG w w.heap.size (.slice ra R.length rc) R)(hk:k<R.length):
 Calls Tryz.prog 161 #[.agg #[.int .i64 T,.int .i64 N,.slice ra R.length rc,.int .i64 op,.int .i64 a,.int .i64 b,.int .i64 c],.int .i64 k] w λe w'=>e= .returned (.bool (kT a (R.getD k (0,[]))))/\Below w.heap.size w w':=by
 obtain⟨W0,hW0⟩:=af (w.alloc (.cells #[.int .i64 T,.int .i64 N,.slice ra R.length rc,.int .i64 op,.int .i64 a,.int .i64 b,.int .i64 c] 249));have hB0:Below w.heap.size w W0:=by rw[<-hW0];exact(ai _ _).alloc (ah _) _
 have x2:W0.cell? ⟨w.heap.size,2,none⟩=some (.slice ra R.length rc):=by rw[<-hW0];exact aM (heap_alloc_new _ _) rfl
 have x4:W0.cell? ⟨w.heap.size,4,none⟩=some (.int .i64 a):=by rw[<-hW0];exact aM (heap_alloc_new _ _) rfl
 obtain⟨b0,o0,uM,qa,qc,hv,_,k1,k2,hsy⟩:=(hr.below hB0).mR hk;cases hv;obtain⟨⟨L,l⟩,hx⟩:=af (R.getD k (0,[]));rw[hx]at k1 k2 hsy⊢;simp only at k1 k2 hsy;obtain⟨W1,hW1⟩:=af (W0.alloc (.cells #[.int .i64 L,.slice qa l.length qc] 96));have hB1:Below W0.heap.size W0 W1:=by rw[<-hW1];exact(ai _ _).alloc (ah _) _
 have y4:=(hB1.cell (aQ _ _ x4)).trans x4;have r0:W1.cell? ⟨W0.heap.size,0,none⟩=some (.int .i64 L):=by rw[<-hW1];exact aM (heap_alloc_new _ _) rfl
 have r1:W1.cell? ⟨W0.heap.size,1,none⟩=some (.slice qa l.length qc):=by rw[<-hW1];exact aM (heap_alloc_new _ _) rfl
 have HB:Hid (Below w.heap.size w W1):=hB0.trans (hB1.mono hB0.size);have MI:=hsy.same (ko hB1);have i0:(0:Int)<=(k:Int):=aF _;have i1:(k:Int)<(R.length:Int):=by omega
 clear hr hx hB0 hB1 hsy;by_cases yA:L=a
 ·subst yA
  by_cases h0:0<l.length
  ·obtain⟨b1,o1,c1,h1,h2,h3⟩:=MI.2 0 h0
   cases h1;simp only[Nat.zero_mul,Nat.add_zero]at h2 h3;obtain⟨⟨t,v⟩,hx⟩:=af (l.getD 0 (false,0));rw[hx]at h2 h3;simp only at h2 h3;have j0:(0:Int)<(l.length:Int):=by omega
   have hE:kT L (L,l)=(!t&&decide (v=L)):=by unfold kT zP;simp only[hx];simp[h0]
   rw[hE];have eL:(L==L)=true:=by simp
   clear MI hx hE;cases t with
   |true=>
    go_enter Tryz.func161,Tryz.ntmps161
    go_wp2_with fail
    go_big_quiet (fail)
    go_wp2_with fail
    go_ret;exact⟨rfl,iR HB.out _⟩
   |false=>
    by_cases hv:v=L
    ·subst hv
     go_enter Tryz.func161,Tryz.ntmps161
     go_wp2_with fail
     go_big_quiet (fail)
     go_wp2_with fail
     go_ret;exact⟨by simp,iR HB.out _⟩
    ·have e1:(v==L)=false:=by simpa using hv
     go_enter Tryz.func161,Tryz.ntmps161
     go_wp2_with fail
     go_big_quiet (fail)
     go_wp2_with fail
     go_ret;exact⟨by simp[hv],iR HB.out _⟩
  ·have hl0:l.length=0:=by omega
   have hE:kT L (L,l)=false:=by unfold kT zP;simp[hl0]
   rw[hE];rw[hl0]at r1 k2 hW1;have eL:(L==L)=true:=by simp
   clear MI hE h0 hl0
   go_enter Tryz.func161,Tryz.ntmps161
   go_wp2_with fail
   go_big_quiet (fail)
   go_wp2_with fail
   go_ret;exact⟨rfl,iR HB.out _⟩
 ·have hE:kT a (L,l)=false:=by unfold kT;simp[yA]
  rw[hE];have eL:(L==a)=false:=by simpa using yA
  clear MI hE yA
  go_enter Tryz.func161,Tryz.ntmps161
  go_wp2_with fail
  go_big_quiet (fail)
  go_wp2_with fail
  go_ret;exact⟨rfl,iR HB.out _⟩
structure iN(w:World)(T N:Int)(ra:Option Addr)(rc:Nat)(R:List Ru)(op a b c:Int)(wq:World):Prop where
 blk:wq.heap[w.heap.size]?=some (.cells #[.int .i64 T,.int .i64 N,.slice ra R.length rc,.int .i64 op,.int .i64 a,.int .i64 b,.int .i64 c] 193 (0,0))
 rules:aG wq w.heap.size (.slice ra R.length rc) R
 below:Below w.heap.size w wq
section
variable{w wq w':World}{T N:Int}{ra:Option Addr}{rc:Nat}{R:List Ru}{op a b c:Int}
theorem iN.size(h:iN w T N ra rc R op a b c wq):w.heap.size+1<=wq.heap.size:=(dx.1 h.blk).1
theorem iN.next(h:iN w T N ra rc R op a b c wq)(hb:Below wq.heap.size wq w'):iN w T N ra rc R op a b c w':=
 ⟨(hb.block _ h.size).trans h.blk,h.rules.below (hb.mono (aZ (by omega) h.size)),h.below.trans (hb.mono (aZ (by omega) h.size))⟩
theorem iN.x0(h:iN w T N ra rc R op a b c wq):wq.cell? ⟨w.heap.size,0,none⟩=some (.int .i64 T):=aM h.blk rfl
theorem iN.x1(h:iN w T N ra rc R op a b c wq):wq.cell? ⟨w.heap.size,1,none⟩=some (.int .i64 N):=aM h.blk rfl
theorem iN.x2(h:iN w T N ra rc R op a b c wq):wq.cell? ⟨w.heap.size,2,none⟩=some (.slice ra R.length rc):=aM h.blk rfl
theorem iN.x3(h:iN w T N ra rc R op a b c wq):wq.cell? ⟨w.heap.size,3,none⟩=some (.int .i64 op):=aM h.blk rfl
theorem iN.x4(h:iN w T N ra rc R op a b c wq):wq.cell? ⟨w.heap.size,4,none⟩=some (.int .i64 a):=aM h.blk rfl
theorem iN.x5(h:iN w T N ra rc R op a b c wq):wq.cell? ⟨w.heap.size,5,none⟩=some (.int .i64 b):=aM h.blk rfl
theorem iN.x6(h:iN w T N ra rc R op a b c wq):wq.cell? ⟨w.heap.size,6,none⟩=some (.int .i64 c):=aM h.blk rfl
theorem iN.all(h:iN w T N ra rc R op a b c wq):aG wq wq.heap.size (.slice ra R.length rc) R:=h.rules.mono (aZ (by omega) h.size)
theorem r9(hr:aG w w.heap.size (.slice ra R.length rc) R):iN w T N ra rc R op a b c (w.alloc (.cells #[.int .i64 T,.int .i64 N,.slice ra R.length rc,.int .i64 op,.int .i64 a,.int .i64 b,.int .i64 c] 193)):=by
 have hB:Below w.heap.size w (w.alloc (.cells #[.int .i64 T,.int .i64 N,.slice ra R.length rc,.int .i64 op,.int .i64 a,.int .i64 b,.int .i64 c] 193)):=(ai _ _).alloc (ah _) _;exact⟨heap_alloc_new _ _,hr.below hB,hB⟩
end
theorem agW{w:World}{T N:Int}{ra:Option Addr}{rc:Nat}{R:List Ru}{op a b c:Int}(hr:aG w w.heap.size (.slice ra R.length rc) R)(hs:¬(0<=a/\a<(R.length:Int)/\0<=b/\b<c/\c<=((R.getD a.toNat (0,[])).2.length:Int))):
 Calls Tryz.prog 136 #[.agg #[.int .i64 T,.int .i64 N,.slice ra R.length rc,.int .i64 op,.int .i64 a,.int .i64 b,.int .i64 c]] w λe w'=>e= .returned (.tuple #[.nilIface,.bool false])/\Below w.heap.size w w':=by
 have hK:=r9 (T:=T) (N:=N) (op:=op) (a:=a) (b:=b) (c:=c) hr;obtain⟨W0,hW0⟩:=af (w.alloc (.cells #[.int .i64 T,.int .i64 N,.slice ra R.length rc,.int .i64 op,.int .i64 a,.int .i64 b,.int .i64 c] 193));rw[hW0]at hK;have x2:=hK.x2;have x4:=hK.x4;have x5:=hK.x5;have x6:=hK.x6;have HB:Hid (Below w.heap.size w W0):=hK.below;have ia:=yj (w:=W0) (n:=a) (m:=(R.length:Int));cases hA:(decide (0<=a)&&decide (a<(R.length:Int))) with
 |false=>
  rw[hA]at ia;clear hK hr hs hA
  go_enter Tryz.func136,Tryz.ntmps136
  go_wp2_with (go_at_call 158;refine ia.mono ?_;rintro e w2 ⟨rfl,rfl⟩)
  refine aH (v:= .tuple #[.nilIface,.bool false]) (by simp[results,Tryz.results136,go_sem]) rfl ?_;exact⟨rfl,HB.out⟩
 |true=>
  rw[hA]at ia;simp only[bG,bX]at hA;obtain⟨ka,rfl⟩:∃ka:Nat,a=ka:=⟨a.toNat,by omega⟩;have hk:ka<R.length:=by omega
  obtain⟨b0,o0,uM,qa,qc,hv,_,k1,k2,_⟩:=hK.rules.mR hk;cases hv;rw[Int.toNat_natCast]at hs;obtain⟨n,hn⟩:=af ((R.getD ka (0,[])).2.length);rw[hn]at k2 hs;have i0:(0:Int)<=(ka:Int):=aF _;have i1:(ka:Int)<(R.length:Int):=by omega
  have ib:=yj (w:=W0) (n:=b) (m:=c);by_cases hc:(n:Int)<c
  ·clear hK hr hs hn k1 ib hA
   go_enter Tryz.func136,Tryz.ntmps136
   go_wp2_with (go_at_call 158;refine ia.mono ?_;rintro e w2 ⟨rfl,rfl⟩)
   refine aH (v:= .tuple #[.nilIface,.bool false]) (by simp[results,Tryz.results136,go_sem]) rfl ?_;exact⟨rfl,HB.out⟩
  ·have hBb:(decide (0<=b)&&decide (b<c))=false:=by
    cases h:(decide (0<=b)&&decide (b<c)) with
    |false=>rfl
    |true=>
     simp only[bG,bX]at h;exact absurd ⟨i0,i1,h.1,h.2,by omega⟩ hs
   rw[hBb]at ib;have ec:decide ((n:Int)<c)=false:=aU hc;clear hK hr hs hn k1 hBb hA hc
   go_enter Tryz.func136,Tryz.ntmps136
   go_wp2_with
    (first
     |(go_at_call 158;refine ia.mono ?_;rintro e w2 ⟨rfl,rfl⟩;clear ia)
     |(go_at_call 158;refine ib.mono ?_;rintro e w2 ⟨rfl,rfl⟩))
   refine aH (v:= .tuple #[.nilIface,.bool false]) (by simp[results,Tryz.results136,go_sem]) rfl ?_;exact⟨rfl,HB.out⟩
theorem agX{w:World}{T N:Int}{ra:Option Addr}{rc:Nat}{R:List Ru}{op:Int}{ka bn cn m:Nat}{L:Int}{l:List Sy}(hr:aG w w.heap.size (.slice ra R.length rc) R)(hk:ka<R.length)(hx:R.getD ka (0,[])=(L,l))(hbc:bn<cn)(hcl:l.length=cn+m)(zR:l.length<=1000):
 Calls Tryz.prog 136 #[.agg #[.int .i64 T,.int .i64 N,.slice ra R.length rc,.int .i64 op,.int .i64 ka,.int .i64 bn,.int .i64 cn]] w λe w'=>e= .returned (.tuple #[.iface 245 (.agg #[.int .i64 T,.int .i64 N,.slice ra R.length rc,.int .i64 op,.int .i64 ka,.int .i64 bn,.int .i64 cn,.int .i64 (jU (l.take bn)).length,.int .i64 (jU (l.take cn)).length]),.bool true])/\Below w.heap.size w w':=by
 have hK:=r9 (T:=T) (N:=N) (op:=op) (a:=ka) (b:=bn) (c:=cn) hr;obtain⟨W0,hW0⟩:=af (w.alloc (.cells #[.int .i64 T,.int .i64 N,.slice ra R.length rc,.int .i64 op,.int .i64 ka,.int .i64 bn,.int .i64 cn] 193));rw[hW0]at hK;have x2:=hK.x2;have x4:=hK.x4;have x5:=hK.x5;have x6:=hK.x6;have ia:=yj (w:=W0) (n:=ka) (m:=(R.length:Int));have ib:=yj (w:=W0) (n:=bn) (m:=cn);obtain⟨b0,o0,uM,qa,qc,hv,_,k1,k2,hsy⟩:=hK.rules.mR hk;cases hv;rw[hx]at k1 k2 hsy;simp only at k1 k2 hsy;have hqc:l.length<=qc:=by obtain⟨_,_,hv,hle⟩:=hsy.1;cases hv;exact hle
 obtain⟨ad,rfl⟩:=hsy.MG (by omega);rw[hcl]at k2 hqc;have i0:(0:Int)<=(ka:Int):=aF _;have i1:(ka:Int)<(R.length:Int):=by omega
 have j0:(0:Int)<=(bn:Int):=aF _;have j1:(bn:Int)<(cn:Int):=by omega
 rw[aT i0,aT i1]at ia;rw[aT j0,aT j1]at ib;have ec:decide (((cn+m:Nat):Int)<(cn:Int))=false:=aU (by omega);have HK:Hid (iN w T N (some ⟨b0,o0,none⟩) rc R op ka bn cn W0):=hK;have l7:Hid (∀wq,Below W0.heap.size W0 wq->dh wq (.slice (some ad) l.length qc) l):=λwq hq=>hsy.same (ko hq);have HX:Hid (l.length=cn+m):=hcl;have agY:=λw=>Jg (ad:=ad) (f:=bn) (sl:=cn+m) (lc:=qc) (fi:=(bn:Int)) rfl (by omega) w;have agZ:=λw=>Jg (ad:=ad) (f:=cn) (sl:=cn+m) (lc:=qc) (fi:=(cn:Int)) rfl (by omega) w;clear hK hr hx hcl hsy k1
 go_enter Tryz.func136,Tryz.ntmps136
 go_upto_region 6 with
  (first
   |(go_at_call 158;with_reducible refine ia.mono ?_;rintro e w2 ⟨rfl,h2⟩;obtain rfl:W0=w2:=h2.symm;clear ia)
   |(go_at_call 158;with_reducible refine ib.mono ?_;rintro e w2 ⟨rfl,h2⟩;obtain rfl:W0=w2:=h2.symm;clear ib))
 obtain⟨Wd,hWd⟩:=af W0.drew;have hBd:Below W0.heap.size W0 Wd:=by rw[<-hWd];exact(ai _ _).drew
 have kU:Hid (∀wq,Below Wd.heap.size Wd wq->iN w T N (some ⟨b0,o0,none⟩) rc R op ka bn cn wq/\dh wq (.slice (some ad) l.length qc) l):=λwq hq=>by
  have h1:Below W0.heap.size W0 wq:=hBd.trans (hq.mono hBd.size);exact⟨HK.out.next h1,l7.out wq h1⟩
 have gM:Hid (∀wq,Below Wd.heap.size Wd wq->wq.cell? ⟨w.heap.size,0,none⟩=some (.int .i64 T)/\wq.cell? ⟨w.heap.size,1,none⟩=some (.int .i64 N)/\wq.cell? ⟨w.heap.size,2,none⟩=some (.slice (some ⟨b0,o0,none⟩) R.length rc)/\wq.cell? ⟨w.heap.size,3,none⟩=some (.int .i64 op)/\wq.cell? ⟨w.heap.size,4,none⟩=some (.int .i64 ka)/\wq.cell? ⟨w.heap.size,5,none⟩=some (.int .i64 bn)/\wq.cell? ⟨w.heap.size,6,none⟩=some (.int .i64 cn)):=λwq hq=>
  let h:=(kU.out wq hq).1
  ⟨h.x0,h.x1,h.x2,h.x3,h.x4,h.x5,h.x6⟩
 have S0:=gM.out Wd (ai _ _);clear hBd x2 x4 x5 x6 k2 hW0;refine mK [0,1,2,3,4,5,7,8,9,10,11] 6 16 (λwq=>wq.cell? ⟨w.heap.size,0,none⟩=some (.int .i64 T)/\wq.cell? ⟨w.heap.size,1,none⟩=some (.int .i64 N)/\wq.cell? ⟨w.heap.size,2,none⟩=some (.slice (some ⟨b0,o0,none⟩) R.length rc)/\wq.cell? ⟨w.heap.size,3,none⟩=some (.int .i64 op)/\wq.cell? ⟨w.heap.size,4,none⟩=some (.int .i64 ka)/\wq.cell? ⟨w.heap.size,5,none⟩=some (.int .i64 bn)/\wq.cell? ⟨w.heap.size,6,none⟩=some (.int .i64 cn)) (by kernel_rfl) (by kernel_rfl) (by rw[hWd];exact S0) ?_;rw[hWd];clear hWd S0
 iterate 11
  refine aW.zQ (v:= ?_) rfl (by rfl) ?_ ?_;rotate_left
  ·intro w' hSw
   obtain⟨z0,z1,z2,z3,z4,z5,z6⟩:=hSw
   go_simp
   try with_reducible rfl
  simp only[Act.put,eB,List.set_cons_zero,List.set_cons_succ]
 rw[aW];have n1:=QZ (w:=Wd) ((kU.out Wd (ai _ _)).2.Fj (f:=bn) (by rw[HX.out];omega)) (by rw[fq];omega);refine aC.one (i:=6) (by kernel_rfl) ⟨_,rfl,λK hK=> ?_⟩
 go_simp
 refine n1.mono ?_;rintro e w3 ⟨rfl,hB3⟩;dsimp only;refine hK.out _ _ (λ_=>gM.out _ hB3) ?_;clear hK n1;have n2:=QZ (w:=w3) ((kU.out w3 hB3).2.Fj (f:=cn) (by rw[HX.out];omega)) (by rw[fq];omega);refine aC.one (i:=12) (by kernel_rfl) ⟨_,rfl,λK hK=> ?_⟩
 go_simp
 refine n2.mono ?_;rintro e w4 ⟨rfl,hB4⟩;dsimp only;have wB:Below Wd.heap.size Wd w4:=hB3.trans (hB4.mono hB3.size);refine hK.out _ _ (λ_=>gM.out _ wB) ?_;clear hK n2;refine aC.one (i:=13) (by kernel_rfl) ⟨_,rfl,λK hK=> ?_⟩
 go_simp
 refine hK.out _ _ (λ_=>gM.out _ wB) ?_;clear hK;refine aC.one (i:=14) (by kernel_rfl) ⟨_,rfl,λK hK=> ?_⟩
 go_simp
 refine hK.out _ _ (λ_=>gM.out _ wB) ?_;clear hK;refine aC.one (i:=15) (by kernel_rfl) ⟨_,rfl,λK hK=> ?_⟩
 go_simp
 refine hK.out _ _ (λ_=>gM.out _ wB) ?_;clear hK;refine aC.last (i:=16) (by kernel_rfl) ⟨_,rfl,λK hK=> ?_⟩
 go_simp
 refine hK.out _ _ (λh=>absurd h (by omega)) (NoPanic.normal ?_);clear hK
 go_wp2_with fail
 refine aH (v:= .tuple #[.iface 245 (.agg #[.int .i64 T,.int .i64 N,.slice (some ⟨b0,o0,none⟩) R.length rc,.int .i64 op,.int .i64 ka,.int .i64 bn,.int .i64 cn,.int .i64 (jU (l.take bn)).length,.int .i64 (jU (l.take cn)).length]),.bool true]) (by simp[results,Tryz.results136,go_sem]) rfl ?_;exact⟨rfl,(kU.out w4 wB).1.below⟩
theorem ag0{w:World}{T N:Int}{ra:Option Addr}{rc:Nat}{R:List Ru}{op a b c:Int}(hr:aG w w.heap.size (.slice ra R.length rc) R)(hs:¬(0<=a/\a<N/\b=0/\c=0)):
 Calls Tryz.prog 138 #[.agg #[.int .i64 T,.int .i64 N,.slice ra R.length rc,.int .i64 op,.int .i64 a,.int .i64 b,.int .i64 c]] w λe w'=>e= .returned (.tuple #[.nilIface,.bool false])/\Below w.heap.size w w':=by
 have hK:=r9 (T:=T) (N:=N) (op:=op) (a:=a) (b:=b) (c:=c) hr;obtain⟨W0,hW0⟩:=af (w.alloc (.cells #[.int .i64 T,.int .i64 N,.slice ra R.length rc,.int .i64 op,.int .i64 a,.int .i64 b,.int .i64 c] 193));rw[hW0]at hK;have x1:=hK.x1;have x4:=hK.x4;have x5:=hK.x5;have x6:=hK.x6;have HB:Hid (Below w.heap.size w W0):=hK.below;have ia:=yj (w:=W0) (n:=a) (m:=N);cases hA:(decide (0<=a)&&decide (a<N)) with
 |false=>
  rw[hA]at ia;clear hK hr hs hA
  go_enter Tryz.func138,Tryz.ntmps138
  go_wp2_with (go_at_call 158;refine ia.mono ?_;rintro e w2 ⟨rfl,rfl⟩)
  refine aH (v:= .tuple #[.nilIface,.bool false]) (by simp[results,Tryz.results138,go_sem]) rfl ?_;exact⟨rfl,HB.out⟩
 |true=>
  rw[hA]at ia;simp only[bG,bX]at hA;by_cases hb:b=0
  ·subst hb
   have ec:(c==0)=false:=by
    have:c≠0:=λhc=>hs ⟨hA.1,hA.2,rfl,hc⟩;simpa using this
   clear hK hr hs hA
   go_enter Tryz.func138,Tryz.ntmps138
   go_wp2_with (go_at_call 158;refine ia.mono ?_;rintro e w2 ⟨rfl,rfl⟩)
   refine aH (v:= .tuple #[.nilIface,.bool false]) (by simp[results,Tryz.results138,go_sem]) rfl ?_;exact⟨rfl,HB.out⟩
  ·have eb:(b==0)=false:=by simpa using hb
   clear hK hr hs hA hb
   go_enter Tryz.func138,Tryz.ntmps138
   go_wp2_with (go_at_call 158;refine ia.mono ?_;rintro e w2 ⟨rfl,rfl⟩)
   refine aH (v:= .tuple #[.nilIface,.bool false]) (by simp[results,Tryz.results138,go_sem]) rfl ?_;exact⟨rfl,HB.out⟩
theorem Zd{f:Ru->Bool}{R:List Ru}{k:Nat}(hk:k<R.length):(R.take (k+1)).any f=((R.take k).any f||f (R.getD k (0,[]))):=by
 have e:R.getD k (0,[])=R[k]:=by simp[List.getD,hk]
 rw[fT hk,List.any_append,e];simp
theorem Ze{f:Ru->Bool}{R:List Ru}{k:Nat}(hk:k<R.length):(R.take (k+1)).all f=((R.take k).all f&&f (R.getD k (0,[]))):=by
 have e:R.getD k (0,[])=R[k]:=by simp[List.getD,hk]
 rw[fT hk,zZ,e];simp
theorem ag1{w:World}{T N:Int}{ra:Option Addr}{rc:Nat}{R:List Ru}{op a:Int}(hr:aG w w.heap.size (.slice ra R.length rc) R)(hl:R.length<=1000)(ha:0<=a/\a<N):
 Calls Tryz.prog 138 #[.agg #[.int .i64 T,.int .i64 N,.slice ra R.length rc,.int .i64 op,.int .i64 a,.int .i64 0,.int .i64 0]] w λe w'=> ∃cv,e= .returned (.tuple #[cv,.bool (uj R a)])/\(uj R a=true->cv= .iface 249 (.agg #[.int .i64 T,.int .i64 N,.slice ra R.length rc,.int .i64 op,.int .i64 a,.int .i64 0,.int .i64 0]))/\Below w.heap.size w w':=by
 have hK:=r9 (T:=T) (N:=N) (op:=op) (a:=a) (b:=0) (c:=0) hr;obtain⟨W0,hW0⟩:=af (w.alloc (.cells #[.int .i64 T,.int .i64 N,.slice ra R.length rc,.int .i64 op,.int .i64 a,.int .i64 0,.int .i64 0] 193));rw[hW0]at hK;obtain⟨W1,hW1⟩:=af (W0.alloc (.cells #[.int .i64 T,.int .i64 N,.slice ra R.length rc,.int .i64 op,.int .i64 a,.int .i64 0,.int .i64 0] 249));have hB1:Below W0.heap.size W0 W1:=by rw[<-hW1];exact(ai _ _).alloc (ah _) _
 have hblk:W1.heap[W0.heap.size]?=some (.cells #[.int .i64 T,.int .i64 N,.slice ra R.length rc,.int .i64 op,.int .i64 a,.int .i64 0,.int .i64 0] 249 (0,0)):=by rw[<-hW1];exact heap_alloc_new _ _
 have x0:=hK.x0;have x1:=hK.x1;have x2:=hK.x2;have x3:=hK.x3;have x4:=hK.x4;have x5:=hK.x5;have x6:=hK.x6;have y2:=(hK.next hB1).x2;rw[<-hW1]at y2;have HW1:Hid (W0.alloc (.cells #[.int .i64 T,.int .i64 N,.slice ra R.length rc,.int .i64 op,.int .i64 a,.int .i64 0,.int .i64 0] 249)=W1):=hW1;have jb:Hid (iN w T N ra rc R op a 0 0 W1):=hK.next hB1;have HX:Hid (∀wq,Below W1.heap.size W1 wq->wq.heap[W0.heap.size]?=some (.cells #[.int .i64 T,.int .i64 N,.slice ra R.length rc,.int .i64 op,.int .i64 a,.int .i64 0,.int .i64 0] 249 (0,0))):=λwq hq=>(hq.block _ (dx.1 hblk).1).trans hblk;have ia:=yj (w:=W0) (n:=a) (m:=N);rw[aT ha.1,aT ha.2]at ia;have e0:((0:Int)==0)=true:=rfl;clear hK hr hB1 hblk ha hW1
 go_enter Tryz.func138,Tryz.ntmps138
 go_wp2_with (go_at_call 158;refine ia.mono ?_;rintro e w2 ⟨rfl,h2⟩;obtain rfl:W0=w2:=h2.symm;clear ia)
 obtain⟨xb,hxb⟩:=af W0.heap.size;rw[HW1.out];rw[hxb]at HX⊢;clear x0 x1 x2 x3 x4 x5 x6 y2 hW0 HW1 hxb
 go_loopw [5,34] (λs5 s34 wr=> ∃k:Nat,s5= .bool ((R.take k).any (kT a))/\s34= .int .i64 k/\k<=R.length/\(R.take k).all (λr=> !(kT a r&&decide (r.2.length=1)))=true/\Below W1.heap.size W1 wr) (λ_ s _=>R.length-(intOf s).toNat)
 case atStart=>exact⟨0,rfl,rfl,aP _,rfl,ai _ _⟩
 case round=>
  obtain⟨k,rfl,rfl,hk,hall,hB⟩:=hrel;have HB:Hid (Below W1.heap.size W1 wr):=hB;have xQ:Hid ((R.take k).all (λr=> !(kT a r&&decide (r.2.length=1)))=true):=hall;have hKr:=jb.out.next hB;have rU:=HX.out wr hB;obtain⟨any,hany⟩:=af ((R.take k).any (kT a));have Zf:Hid ((R.take k).any (kT a)=any):=hany;rw[hany];clear hany hall;by_cases hlt:k<R.length
  ·obtain⟨b0,o0,uM,qa,qc,hv,_,k1,k2,_⟩:=hKr.rules.mR hlt
   cases hv;obtain⟨⟨L,l⟩,hx⟩:=af (R.getD k (0,[]));rw[hx]at k1 k2;simp only at k1 k2;obtain⟨n,hn⟩:=af l.length;rw[hn]at k2;have CX:Hid (R.getD k (0,[])=(L,l)/\l.length=n):=⟨hx,hn⟩;obtain⟨W2,hW2⟩:=af (wr.alloc (.cells #[.int .i64 L,.slice qa n qc] 96));obtain⟨rb,hrb⟩:=af wr.heap.size;have hB2:Below wr.heap.size wr W2:=by rw[<-hW2];exact(ai _ _).alloc (ah _) _
   have hB2':Below W1.heap.size W1 W2:=HB.out.trans (hB2.mono HB.out.size);have r1:W2.cell? ⟨rb,1,none⟩=some (.slice qa n qc):=by rw[<-hW2,<-hrb];exact aM (heap_alloc_new _ _) rfl
   have hX2:=HX.out W2 hB2';have z0:W2.cell? ⟨xb,0,none⟩=some (.int .i64 T):=aM hX2 rfl;have z1:W2.cell? ⟨xb,1,none⟩=some (.int .i64 N):=aM hX2 rfl;have z2:W2.cell? ⟨xb,2,none⟩=some (.slice (some ⟨b0,o0,none⟩) R.length rc):=aM hX2 rfl;have z3:W2.cell? ⟨xb,3,none⟩=some (.int .i64 op):=aM hX2 rfl;have z4:W2.cell? ⟨xb,4,none⟩=some (.int .i64 a):=aM hX2 rfl;have z5:W2.cell? ⟨xb,5,none⟩=some (.int .i64 0):=aM hX2 rfl;have z6:W2.cell? ⟨xb,6,none⟩=some (.int .i64 0):=aM hX2 rfl;have be:=Zc (w:=W2) (T:=T) (N:=N) (op:=op) (a:=a) (b:=0) (c:=0) (jb.out.next hB2').all hlt;rw[hx]at be;have HB2:Hid (Below W1.heap.size W1 W2):=hB2';have HR1:Hid (W2.cell? ⟨rb,1,none⟩=some (.slice qa n qc)):=r1;have i0:(0:Int)<=(k:Int):=aF _;have i1:(k:Int)<(R.length:Int):=by omega
   clear hx hn hB2 hB2' hX2 rU hKr r1 hB;cases hbe:kT a (L,l) with
   |false=>
    rw[hbe]at be;have nT:Hid (kT a (L,l)=false):=hbe;clear hbe
    go_wp2_with (go_at_call 161;refine be.mono ?_;rintro e w3 ⟨rfl,hB3⟩;clear be)
    go_roundw
    case rel=>
     refine⟨k+1,?_,by go_num,by omega,?_,HB2.out.trans (hB3.mono HB2.out.size)⟩
     ·rw[Zd hlt,Zf.out,CX.out.1,nT.out,Bool.or_false]
     ·rw[Ze hlt,xQ.out,CX.out.1,nT.out]
      rfl
    case measure=>simp[intOf];omega
   |true=>
    rw[hbe]at be;have nT:Hid (kT a (L,l)=true):=hbe;clear hbe;by_cases hn1:n=1
    ·have Rb:Hid (n=1):=hn1
     have en:((n:Int)==1)=true:=by rw[hn1];rfl
     clear hn1
     go_wp2_with
      (go_at_call 161;refine be.mono ?_;rintro e w3 ⟨rfl,hB3⟩;clear be
       have q1:=(hB3.cell (aQ _ _ HR1.out)).trans HR1.out)
     have hF:uj R a=false:=by
      unfold uj
      have:(R.all λr=> !(kT a r&&decide (r.2.length=1)))=false:=by
       rw[FH];refine⟨(L,l),?_,?_⟩
       ·rw[<-CX.out.1]
        simp[List.getD,hlt]
       ·rw[nT.out,CX.out.2,Rb.out]
        simp
      rw[this,Bool.and_false]
     refine aH (v:= .tuple #[.nilIface,.bool false]) (by simp[results,Tryz.results138,go_sem]) rfl ?_;refine⟨_,by rw[hF],λh=> ?_,jb.out.below.trans ((HB2.out.trans (hB3.mono HB2.out.size)).mono (aZ (by omega) jb.out.size))⟩;rw[hF]at h;cases h
    ·have en:((n:Int)==1)=false:=by
      have:(n:Int)≠1:=by omega
      simpa using this
     have Rb:Hid (¬n=1):=hn1;clear hn1
     go_wp2_with
      (go_at_call 161;refine be.mono ?_;rintro e w3 ⟨rfl,hB3⟩;clear be
       have q1:=(hB3.cell (aQ _ _ HR1.out)).trans HR1.out)
     go_roundw
     case rel=>
      refine⟨k+1,?_,by go_num,by omega,?_,HB2.out.trans (hB3.mono HB2.out.size)⟩
      ·rw[Zd hlt,CX.out.1,nT.out,Bool.or_true]
      ·rw[Ze hlt,xQ.out,CX.out.1,nT.out,CX.out.2]
       simp[Rb.out]
     case measure=>simp[intOf];omega
  ·have hkk:k=R.length:=by omega
   have hL:uj R a=any:=by
    unfold uj;have h1:=Zf.out;have h2:=xQ.out;rw[hkk,gH]at h1 h2;rw[h1,h2,Bool.and_true]
   have HL:Hid (uj R a=any):=hL;have z0:wr.cell? ⟨xb,0,none⟩=some (.int .i64 T):=aM rU rfl;have z1:wr.cell? ⟨xb,1,none⟩=some (.int .i64 N):=aM rU rfl;have z2:wr.cell? ⟨xb,2,none⟩=some (.slice ra R.length rc):=aM rU rfl;have z3:wr.cell? ⟨xb,3,none⟩=some (.int .i64 op):=aM rU rfl;have z4:wr.cell? ⟨xb,4,none⟩=some (.int .i64 a):=aM rU rfl;have z5:wr.cell? ⟨xb,5,none⟩=some (.int .i64 0):=aM rU rfl;have z6:wr.cell? ⟨xb,6,none⟩=some (.int .i64 0):=aM rU rfl;have PK:Hid (Below w.heap.size w wr):=hKr.below;clear rU hKr hB hkk hL
   go_wp2_with fail
   refine aH (v:= .tuple #[.iface 249 (.agg #[.int .i64 T,.int .i64 N,.slice ra R.length rc,.int .i64 op,.int .i64 a,.int .i64 0,.int .i64 0]),.bool any]) (by simp[results,Tryz.results138,go_sem]) rfl ?_;exact⟨_,by rw[HL.out],λ_=>rfl,PK.out⟩
end Go.Proofs.YthbifaoaiggooaaGreatDoor
namespace Go.Proofs.YthbifaoaiggooaaGreatDoor
def hasB(X:List Bool)(n:Int):Prop:=0<=n/\X.getD n.toNat false=true
def wC(A:Int->Prop)(l:List Sy):Prop:=∀s∈l,s.1=false->A s.2
def CY(R:List Ru)(A:Int->Prop)(n:Int):Prop:=∃r∈R,r.1=n/\wC A r.2
def Jh(R:List Ru)(M A:Int->Prop)(n:Int):Prop:=(n=0/\M 0)\/∃r∈R,(false,n)∈r.2/\wC M r.2/\A r.1
def jA(N:Nat)(R:List Ru):Int->Prop:=Lv (CY R) N
def si(N:Nat)(R:List Ru):Int->Prop:=Lv (Jh R (jA N R)) N
theorem wC.mono{A B:Int->Prop}(h:∀n,A n->B n){l:List Sy}(hl:wC A l):wC B l:=λs hs hb=>h _ (hl s hs hb)
theorem Zg(R:List Ru)(A B:Int->Prop)(h:∀n,A n->B n)(n:Int)(hn:CY R A n):CY R B n:=by
 obtain⟨r,h1,h2,h3⟩:=hn;exact⟨r,h1,h2,h3.mono h⟩
theorem Zh(R:List Ru)(M:Int->Prop)(A B:Int->Prop)(h:∀n,A n->B n)(n:Int)(hn:Jh R M A n):Jh R M B n:=by
 rcases hn with hn|⟨r,h1,h2,h3,h4⟩
 ·exact .inl hn
 ·exact .inr ⟨r,h1,h2,h3,h _ h4⟩
section
variable{T N:Nat}{R:List Ru}(h:dD T N R)
include h
theorem Zi:yP N (CY R):=⟨λA B=>Zg R A B,λA n hn=>by obtain⟨r,h1,rfl,_⟩:=hn;exact h.left r h1⟩
theorem Rc(M:Int->Prop):yP N (Jh R M):=⟨λA B=>Zh R M A B,λA n hn=>by
 rcases hn with⟨rfl,_⟩|⟨r,h1,h2,_⟩
 ·have:=h.some;omega
 ·exact h.name r h1 _ h2 rfl⟩
end
theorem BF{X:List Bool}{l:List Sy}(h:∀s∈l,s.1=false->0<=s.2):fF X l=true↔wC (hasB X) l:=by
 unfold fF wC hasB;rw[qO];constructor
 ·intro hh s hs hb
  have:=hh s hs;rw[hb]at this;exact⟨h s hs hb,by simpa using this⟩
 ·intro hh s hs
  cases hb:s.1 with
  |true=>rfl
  |false=>rw[(hh s hs hb).2];rfl
theorem yB{R:List Ru}{i:Nat}(hi:i<R.length):R.getD i (0,[])∈R:=by simp[List.getD,hi]
theorem Ji{R:List Ru}{r:Ru}(hr:r∈R):∃i,i<R.length/\R.getD i (0,[])=r:=by
 obtain⟨i,hi,rfl⟩:=kE hr;exact⟨i,hi,by simp[List.getD,hi]⟩
theorem wD{v:Int}(h:0<=v):((v.toNat:Nat):Int)=v:=by omega
end Go.Proofs.YthbifaoaiggooaaGreatDoor
namespace Go.Proofs.YthbifaoaiggooaaGreatDoor
open Go.RowKit
end Go.Proofs.YthbifaoaiggooaaGreatDoor
namespace Go.Proofs.YthbifaoaiggooaaGreatDoor
theorem BG{X:List Bool}{l:Nat}(hl:l<X.length){n:Int}:hasB (X.set l true) n↔n=(l:Int)\/hasB X n:=G5 hl
theorem Zj{N:Nat}{n:Int}(hn:hasB (List.replicate N false) n):False:=by
 have:=hn.2;by_cases h:n.toNat<N
 ·simp[List.getD,h]at this
 ·simp[List.getD,List.getElem?_eq_none (show (List.replicate N false).length<=n.toNat by simp;omega)]at this
section
variable{T N:Nat}{R:List Ru}(hf:dD T N R)
include hf
theorem MJ{i:Nat}(hi:i<R.length):∀s∈(R.getD i (0,[])).2,s.1=false->0<=s.2:=λs hs h=>(hf.name _ (yB hi) s hs h).1
theorem Rf:(uX R N).length=N/\∀n,hasB (uX R N) n↔jA N R n:=by
 have hm:=Zi hf
 have main:=qz (n:=N) (f:=λ_=>bf R.length (Mr R)) (x:=List.replicate N false)
  (λk X=>X.length=N/\(∀n,hasB X n->jA N R n)/\∀n,Lv (CY R) k n->hasB X n)
  ⟨by simp,λn hn=>(Zj hn).elim,λn hn=>hn.elim⟩
  (λk _ X ⟨h1,h2,h3⟩=>by
    have inner:=qz (n:=R.length) (f:=Mr R) (x:=X)
     (λi Y=>Y.length=N/\(∀n,hasB Y n->jA N R n)/\(∀n,Lv (CY R) k n->hasB Y n)/\∀j,j<i->wC (Lv (CY R) k) (R.getD j (0,[])).2->hasB Y (R.getD j (0,[])).1)
     ⟨h1,h2,h3,λj hj=>absurd hj (iI _)⟩
     (λi hi Y ⟨y1,y2,y3,y4⟩=>by
       have hL:=hf.left _ (yB hi);have hl:(R.getD i (0,[])).1.toNat<Y.length:=by omega
       have hcast:=wD hL.1;unfold Mr;cases hb:fF Y (R.getD i (0,[])).2 with
       |true=>
        simp only[bQ];have hall:=(BF (MJ hf hi)).1 hb;refine⟨by simp[y1],λn hn=> ?_,λn hn=>(BG hl).2 (.inr (y3 n hn)),λj hj ha=> ?_⟩
        ·rcases(BG hl).1 hn with rfl|hn
         ·rw[hcast]
          exact oG hm _ ⟨_,yB hi,rfl,hall.mono y2⟩
         ·exact y2 n hn
        ·rcases fJ.1 hj with hj|rfl
         ·exact(BG hl).2 (.inr (y4 j hj ha))
         ·exact(BG hl).2 (.inl hcast.symm)
       |false=>
        simp only[dO,bN];refine⟨y1,y2,y3,λj hj ha=> ?_⟩;rcases fJ.1 hj with hj|rfl
        ·exact y4 j hj ha
        ·rw[(BF (MJ hf hi)).2 (ha.mono y3)]at hb;cases hb)
    obtain⟨z1,z2,_,z4⟩:=inner;refine⟨z1,z2,λn hn=> ?_⟩;obtain⟨r,hr,rfl,ha⟩:=hn;obtain⟨j,hj,rfl⟩:=Ji hr
    exact z4 j hj ha)
 obtain⟨m1,m2,m3⟩:=main;exact⟨m1,λn=>⟨m2 n,λhn=>m3 n hn⟩⟩
theorem Zk:(Mt R N).length=N/\∀n,hasB (Mt R N) n↔si N R n:=by
 obtain⟨ml,mi⟩:=Rf hf;have hN:=hf.some;have hm:=Rc hf (jA N R)
 have h0:hasB ((List.replicate N false).set 0 ((uX R N).getD 0 false)) 0↔jA N R 0:=by
  rw[<-mi 0];unfold hasB;have:0<N:=by omega
  simp[List.getD,this]
 have main:=qz (n:=N) (f:=λ_=>bf R.length (Ms R (uX R N))) (x:=(List.replicate N false).set 0 ((uX R N).getD 0 false))
  (λk X=>X.length=N/\(∀n,hasB X n->si N R n)/\(jA N R 0->hasB X 0)/\∀n,Lv (Jh R (jA N R)) k n->hasB X n)
  ⟨by simp,λn hn=>by
    by_cases h:n=0
    ·subst h;exact oG hm _ (.inl ⟨rfl,h0.1 hn⟩)
    ·refine(Zj (N:=N) (n:=n) ⟨hn.1,?_⟩).elim
     have hn2:=hn.2;have hne:0≠n.toNat:=by have:=hn.1;omega
     simpa [List.getD,List.getElem?_set_ne hne] using hn2,h0.2,λn hn=>hn.elim⟩
  (λk _ X ⟨h1,h2,hz,h3⟩=>by
    have inner:=qz (n:=R.length) (f:=Ms R (uX R N)) (x:=X)
     (λi Y=>Y.length=N/\(∀n,hasB Y n->si N R n)/\(∀n,hasB X n->hasB Y n)/\∀j,j<i->wC (jA N R) (R.getD j (0,[])).2->hasB X (R.getD j (0,[])).1->∀n:Int,(false,n)∈(R.getD j (0,[])).2->hasB Y n)
     ⟨h1,h2,λ_ h=>h,λj hj=>absurd hj (iI _)⟩
     (λi hi Y ⟨y1,y2,y3,y4⟩=>by
       have hr:=yB hi;have hL:=hf.left _ hr;have hcast:=wD hL.1;unfold Ms;cases hb:(Y.getD (R.getD i (0,[])).1.toNat false&&fF (uX R N) (R.getD i (0,[])).2) with
       |true=>
        simp only[bQ];simp only[bG]at hb;have hc:si N R (R.getD i (0,[])).1:=y2 _ ⟨hL.1,hb.1⟩;have hall:wC (jA N R) (R.getD i (0,[])).2:=((BF (MJ hf hi)).1 hb.2).mono λn hn=>(mi n).1 hn
        have names:=qz (n:=(R.getD i (0,[])).2.length) (f:=QV (R.getD i (0,[])).2) (x:=Y)
         (λk Q=>Q.length=N/\(∀n,hasB Q n->si N R n)/\(∀n,hasB Y n->hasB Q n)/\∀j,j<k->((R.getD i (0,[])).2.getD j (false,0)).1=false->hasB Q ((R.getD i (0,[])).2.getD j (false,0)).2)
         ⟨y1,y2,λ_ h=>h,λj hj=>absurd hj (iI _)⟩
         (λk hk Q ⟨q1,q2,q3,q4⟩=>by
           have hmem:(R.getD i (0,[])).2.getD k (false,0)∈(R.getD i (0,[])).2:=by
            generalize (R.getD i (0,[])).2=l at hk;simp[List.getD,hk]
           unfold QV;obtain⟨⟨x,v⟩,hx⟩:=af ((R.getD i (0,[])).2.getD k (false,0));rw[hx]at hmem⊢;cases x with
           |true=>
            simp only[bQ];refine⟨q1,q2,q3,λj hj Jj=> ?_⟩;rcases fJ.1 hj with hj|rfl
            ·exact q4 j hj Jj
            ·rw[hx]at Jj;cases Jj
           |false=>
            simp only[dO,bN];have hv:=hf.name _ hr _ hmem rfl;simp only at hv;have hl:v.toNat<Q.length:=by omega
            refine⟨by simp[q1],λn hn=> ?_,λn hn=>(BG hl).2 (.inr (q3 n hn)),λj hj Jj=> ?_⟩
            ·rcases(BG hl).1 hn with rfl|hn
             ·rw[wD hv.1]
              exact oG hm _ (.inr ⟨_,hr,hmem,hall,hc⟩)
             ·exact q2 n hn
            ·rcases fJ.1 hj with hj|rfl
             ·exact(BG hl).2 (.inr (q4 j hj Jj))
             ·rw[hx];exact(BG hl).2 (.inl (wD hv.1).symm))
        obtain⟨z1,z2,z3,z4⟩:=names;refine⟨z1,z2,λn hn=>z3 n (y3 n hn),λj hj ha hx n hmem=> ?_⟩;rcases fJ.1 hj with hj|rfl
        ·exact z3 n (y4 j hj ha hx n hmem)
        ·obtain⟨q,hq,he⟩:=kE hmem
         have e:(R.getD j (0,[])).2.getD q (false,0)=(false,n):=by
          generalize (R.getD j (0,[])).2=l at hq he;simp[List.getD,hq,he]
         have:=z4 q hq (by rw[e])
         rwa [e]at this
       |false=>
        simp only[dO,bN];refine⟨y1,y2,y3,λj hj ha hx n hmem=> ?_⟩;rcases fJ.1 hj with hj|rfl
        ·exact y4 j hj ha hx n hmem
        ·rw[(y3 _ hx).2,(BF (MJ hf hi)).2 (ha.mono λn hn=>(mi n).2 hn)]at hb
         cases hb)
    obtain⟨z1,z2,z3,z4⟩:=inner;refine⟨z1,z2,λh=>z3 0 (hz h),λn hn=> ?_⟩;rcases hn with⟨rfl,hM⟩|⟨r,hr,hmem,ha,hc⟩
    ·exact z3 0 (hz hM)
    ·obtain⟨j,hj,rfl⟩:=Ji hr
     exact z4 j hj ha (h3 _ hc) n hmem)
 obtain⟨m1,m2,_,m3⟩:=main;exact⟨m1,λn=>⟨m2 n,λhn=>m3 n hn⟩⟩
end
section
variable{T N:Nat}{R:List Ru}(hf:dD T N R)
include hf
end
section
variable{N:Nat}{R R':List Ru}{a:Nat}{l1 l2 l3:List Sy}
end
section
variable{R R':List Ru}{a:Nat}{l1 l3:List Sy}{X:Int}{sh ush rk:Nat->Nat}{isIn:Nat->Option Nat}{m:Nat->Nat}
end
section
variable{R R':List Ru}{M C:Int->Prop}{sh ush:Nat->Nat}
end
section
variable{N:Nat}{R R':List Ru}{A:Int}{own isA:Nat->Bool}{L:Nat}
end
section
variable{T N:Nat}{R:List Ru}{s:Stp}
theorem Zl{f:Nat->List Ru}{h:Nat->Ru}(he:∀k,f k=[h k]):∀L:List Nat,L.flatMap f=L.map h
 | []=>rfl
 |k::L=>by rw[gV,he,jB,Zl he L];rfl
theorem Rh{h:Nat->Ru}(he:∀k,EZ N R s k=[h k]):je N R s=(List.range R.length).map h++BD N R s:=by
 unfold je;rw[Zl he]
end
section
variable{N:Nat}{R R':List Ru}{A:Int}{own isA:Nat->Bool}
end
def bL(p:Nat->Bool)(n:Nat):List Nat:=(List.range n).filter p
theorem Zm(p:Nat->Bool)(n:Nat):bL p (n+1)=bL p n++(if p n then [n] else []):=by
 unfold bL;rw[pF,Dt]
 congr 1
 cases h:p n<;>simp[h]
theorem Zn{f g:Nat->List Ru}:∀L:List Nat,(∀k∈L,f k=g k)->L.flatMap f=L.flatMap g
 | [],_=>rfl
 |k::L,h=>by rw[gV,gV,h k (List.mem_cons_self ..),Zn L λk hk=>h k (mH _ hk)]
section
variable{T N:Nat}{R:List Ru}
theorem Zo(p:Nat->Bool)(f:Nat->Ru):∀L:List Nat,(L.flatMap λk=>if p k then [f k] else [])=(L.filter p).map f
 | []=>rfl
 |k::L=>by
  rw[gV,Zo p f L,vk];split<;>rfl
theorem ag2(X:Int):(R.filter λx=>decide (x.1=X))=(bL (λk=>decide ((R.getD k (0,[])).1=X)) R.length).map λk=>R.getD k (0,[]):=by
 have hR:R=(List.range R.length).map λk=>R.getD k (0,[]):=by
  refine FJ λi=> ?_;by_cases hi:i<R.length
  ·rw[List.getElem?_map,List.getElem?_range hi]
   simp[List.getD,hi]
  ·rw[nJ (by omega),nJ (by rw[cK,qR];omega)]
 conv=>lhs;rw[hR]
 rw[List.filter_map];rfl
end
end Go.Proofs.YthbifaoaiggooaaGreatDoor
namespace Go.Proofs.YthbifaoaiggooaaGreatDoor
open Go.RowKit
theorem Tryz.infoIn8:(Tryz.prog.info? 3).map (λi=>(i.zero,i.size,i.bytes))=some (some (.int .i64 0),1,8):=by kernel_rfl
def nG(IX:List Nat):List Value:=IX.map λ(n:Nat)=>Value.int .i64 (n:Int)
theorem MK(p:Nat->Bool)(n:Nat):(bL p n).length<=n:=by
 unfold bL;refine aZ (vv _ _) ?_;simp
theorem Zp{p:Nat->Bool}{n k:Nat}(h:k<(bL p n).length):(bL p n).getD k 0<n:=by
 have e:(bL p n).getD k 0=(bL p n)[k]:=by simp[List.getD,h]
 have hm:(bL p n)[k]∈bL p n:=jO h;rw[e];unfold bL at hm⊢;rw[sD]at hm;exact jC.1 hm.1
theorem Zq{w:World}{B:Nat}{v:Value}{IX:List Nat}(h:w.ownsRow B 3 1 v IX.length (nG IX)):aY w w.heap.size v (IX.map λ(n:Nat)=>(n:Int)):=by
 obtain⟨a,c,hv⟩:=cO h;refine⟨⟨a,c,by rw[cK];exact hv⟩,λp hp=> ?_⟩;have hp':p<IX.length:=by simpa using hp
 obtain⟨g,cap,hg,_,hlt⟩:=h.form (by omega);have h':=h;rw[hg]at h';refine⟨g,0,cap,by rw[cK];exact hg,hlt,?_⟩;rw[eO,h'.cellAt p (by omega)];simp[nG,List.getD,hp']
theorem ag3{w:World}{ra:Option Addr}{rc:Nat}{R:List Ru}{m:Int}(hr:aG w w.heap.size (.slice ra R.length rc) R)(hl:R.length<=1000):
 Calls Tryz.prog 160 #[.slice ra R.length rc,.int .i64 m] w λe w'=> ∃ov,e= .returned ov/\w'.ownsRow w.heap.size 3 1 ov (bL (λk=>decide ((R.getD k (0,[])).1=m)) R.length).length (nG (bL (λk=>decide ((R.getD k (0,[])).1=m)) R.length))/\Below w.heap.size w w':=by
 obtain⟨p,hp⟩:∃p:Nat->Bool,(λk=>decide ((R.getD k (0,[])).1=m))=p:=⟨_,rfl⟩;rw[hp];have HP:Hid (∀k,p k=decide ((R.getD k (0,[])).1=m)):=λk=>by rw[<-hp]
 have HR:Hid (aG w w.heap.size (.slice ra R.length rc) R):=hr;clear hr hp
 go_enter Tryz.func160,Tryz.ntmps160
 go_wp2_with fail
 go_loopw [5,10] (λs5 s10 wr=> ∃(k:Nat) (ov:Value),ov=s5/\s10= .int .i64 k/\k<=R.length/\wr.ownsRow w.heap.size 3 1 ov (bL p k).length (nG (bL p k))/\Below w.heap.size w wr) (λ_ s _=>R.length-(intOf s).toNat)
 case atStart=>exact⟨0,_,rfl,rfl,aP _,ji w w.heap.size 3 1,ai _ _⟩
 case round=>
  obtain⟨k,ov,rfl,rfl,hk,hO,hB⟩:=hrel;have HB:Hid (Below w.heap.size w wr):=hB;have HO:Hid (wr.ownsRow w.heap.size 3 1 ov (bL p k).length (nG (bL p k))):=hO;by_cases hlt:k<R.length
  ·obtain⟨b0,o0,uM,qa,qc,hv,_,k1,k2,_⟩:=(HR.out.below hB).mR hlt
   cases hv;have hpk:=HP.out k;have hsu:=Zm p k;have hln:=MK p k;obtain⟨⟨L,l⟩,hx⟩:=af (R.getD k (0,[]));rw[hx]at k1 k2 hpk;simp only at k1 k2 hpk;obtain⟨n,hn⟩:=af l.length;rw[hn]at k2;obtain⟨W1,hW1⟩:=af (wr.alloc (.cells #[.int .i64 L,.slice qa n qc] 96));have hB1:Below wr.heap.size wr W1:=by rw[<-hW1];exact(ai _ _).alloc (ah _) _
   have HB1:Hid (Below wr.heap.size wr W1):=hB1;have d0:W1.cell? ⟨wr.heap.size,0,none⟩=some (.int .i64 L):=by rw[<-hW1];exact aM (heap_alloc_new _ _) rfl
   have i0:(0:Int)<=(k:Int):=aF _;have i1:(k:Int)<(R.length:Int):=by omega
   by_cases hm:L=m
   ·subst hm
    have e1:(L==L)=true:=by simp
    rw[hpk]at hsu;simp only[decide_true,bQ]at hsu;have bV:=(own_below hO hB1 λg hg=>(hO.lt g hg).2).alloc (.cells #[.int .i64 k] 3);have ku:=jh (cs:= #[.int .i64 k]) (t:=3) (fr:=(0,0)) (heap_alloc_new W1 (.cells #[.int .i64 k] 3))
    have hb5:w.heap.size<=(W1.alloc (.cells #[.int .i64 k] 3)).heap.size:=by
     have:=hB.size;have:=hB1.size;simp;omega
    obtain⟨q,hq⟩:=af ((bL p k).length);rw[hq]at bV hln;have n1:q+1<=maxLen:=by unfold maxLen;omega
    have n2:(q+1)*8<=140737488355328:=by omega
    have HX:Hid (bL p (k+1)=bL p k++[k]/\(bL p k).length=q):=⟨hsu,hq⟩;obtain⟨vQ,hi0,hz0,hz1,hz2⟩:=fK Tryz.infoIn8;clear hB hO hx hn hq hpk hsu hB1
    go_wp2_with
     (at_builtin
      refine ow _ rfl _ _ _ rfl w.heap.size 3 vQ _ 1 8 Tryz.underlying39 hi0 hz0 hz1 hz2 rfl (by omega) ov q (nG (bL p k)) rfl bV ⟨W1.heap.size,0,none⟩ 1 1 [.int .i64 k] rfl rfl ku (by simp[Value.oneCell']) (by omega) n1 n2 hb5 _ rfl ?_
      intro g6 cap6 w6 hown6 fP oL vN)
    go_roundw
    case rel=>
     refine⟨k+1,_,rfl,by go_num,by omega,?_,?_⟩
     ·rw[HX.out.1,aS,HX.out.2]
      unfold nG at hown6⊢;rw[fD];exact hown6
     ·have h4:Below w.heap.size w (W1.alloc (.cells #[.int .i64 k] 3)):=(HB.out.trans (HB1.out.mono HB.out.size)).alloc (aZ HB.out.size HB1.out.size) _
      exact h4.grown fP hb5 λj hj=>(bV.lt j hj).1
    case measure=>simp[intOf];omega
   ·have e1:(L==m)=false:=by simpa using hm
    have HN:Hid (bL p (k+1)=bL p k):=by
     show _=_;rw[hsu,hpk,aU hm];simp
    clear hB hO hx hn hpk hsu hB1
    go_wp2_with fail
    go_roundw
    case rel=>exact⟨k+1,ov,rfl,by go_num,by omega,by rw[HN.out];exact own_below HO.out HB1.out λg hg=>(HO.out.lt g hg).2,HB.out.trans (HB1.out.mono HB.out.size)⟩
    case measure=>simp[intOf];omega
  ·obtain rfl:k=R.length:=by omega
   clear hB hO
   go_wp2_with fail
   go_ret;exact⟨ov,rfl,HO.out,HB.out⟩
theorem ag4{w:World}{T N:Int}{ra:Option Addr}{rc:Nat}{R:List Ru}{op a b c:Int}(hr:aG w w.heap.size (.slice ra R.length rc) R)(hs:¬(0<=a/\a<(R.length:Int)/\0<=b/\b<((R.getD a.toNat (0,[])).2.length:Int)/\c=0/\((R.getD a.toNat (0,[])).2.getD b.toNat (false,0)).1=false/\((R.getD a.toNat (0,[])).2.getD b.toNat (false,0)).2≠(R.getD a.toNat (0,[])).1)):
 Calls Tryz.prog 137 #[.agg #[.int .i64 T,.int .i64 N,.slice ra R.length rc,.int .i64 op,.int .i64 a,.int .i64 b,.int .i64 c]] w λe w'=>e= .returned (.tuple #[.nilIface,.bool false])/\Below w.heap.size w w':=by
 have hK:=r9 (T:=T) (N:=N) (op:=op) (a:=a) (b:=b) (c:=c) hr;obtain⟨W0,hW0⟩:=af (w.alloc (.cells #[.int .i64 T,.int .i64 N,.slice ra R.length rc,.int .i64 op,.int .i64 a,.int .i64 b,.int .i64 c] 193));rw[hW0]at hK;have x2:=hK.x2;have x4:=hK.x4;have x5:=hK.x5;have x6:=hK.x6;have HB:Hid (Below w.heap.size w W0):=hK.below;have ia:=yj (w:=W0) (n:=a) (m:=(R.length:Int));cases hA:(decide (0<=a)&&decide (a<(R.length:Int))) with
 |false=>
  rw[hA]at ia;clear hK hr hs hA
  go_enter Tryz.func137,Tryz.ntmps137
  go_wp2_with (go_at_call 158;refine ia.mono ?_;rintro e w2 ⟨rfl,rfl⟩)
  refine aH (v:= .tuple #[.nilIface,.bool false]) (by simp[results,Tryz.results137,go_sem]) rfl ?_;exact⟨rfl,HB.out⟩
 |true=>
  rw[hA]at ia;simp only[bG,bX]at hA;by_cases hc:c=0
  ·have ec:(c==0)=true:=by simpa using hc
   obtain⟨ka,rfl⟩:∃ka:Nat,a=ka:=⟨a.toNat,by omega⟩;have hk:ka<R.length:=by omega
   obtain⟨b0,o0,uM,qa,qc,hv,_,k1,k2,hsy⟩:=hK.rules.mR hk;cases hv;rw[Int.toNat_natCast]at hs;obtain⟨⟨L,l⟩,hx⟩:=af (R.getD ka (0,[]));rw[hx]at k1 k2 hsy hs;simp only at k1 k2 hsy hs;obtain⟨W1,hW1⟩:=af (W0.alloc (.cells #[.int .i64 L,.slice qa l.length qc] 96));have hB1:Below W0.heap.size W0 W1:=by rw[<-hW1];exact(ai _ _).alloc (ah _) _
   have hK1:=hK.next hB1;have HB1:Hid (Below w.heap.size w W1):=hK1.below;have y5:=hK1.x5;have r0:W1.cell? ⟨W0.heap.size,0,none⟩=some (.int .i64 L):=by rw[<-hW1];exact aM (heap_alloc_new _ _) rfl
   have r1:W1.cell? ⟨W0.heap.size,1,none⟩=some (.slice qa l.length qc):=by rw[<-hW1];exact aM (heap_alloc_new _ _) rfl
   have i0:(0:Int)<=(ka:Int):=aF _;have i1:(ka:Int)<(R.length:Int):=by omega
   have ib:=yj (w:=W1) (n:=b) (m:=(l.length:Int));have ML:=hsy.same (ko hB1);cases hBb:(decide (0<=b)&&decide (b<(l.length:Int))) with
   |false=>
    rw[hBb]at ib;clear hK hr hs hx hsy ML hB1 hK1 hA hBb hc
    go_enter Tryz.func137,Tryz.ntmps137
    go_wp2_with
     (first
      |(go_at_call 158;with_reducible refine ia.mono ?_;rintro e w2 ⟨rfl,h2⟩;obtain rfl:W0=w2:=h2.symm;clear ia)
      |(go_at_call 158;with_reducible refine ib.mono ?_;rintro e w2 ⟨rfl,h2⟩;obtain rfl:W1=w2:=h2.symm;clear ib))
    refine aH (v:= .tuple #[.nilIface,.bool false]) (by simp[results,Tryz.results137,go_sem]) rfl ?_;exact⟨rfl,HB1.out⟩
   |true=>
    rw[hBb]at ib;simp only[bG,bX]at hBb;obtain⟨bn,rfl⟩:∃bn:Nat,b=bn:=⟨b.toNat,by omega⟩;have hbl:bn<l.length:=by omega
    obtain⟨b1,o1,c1,hv1,s1,s2⟩:=ML.2 bn hbl;cases hv1;rw[Int.toNat_natCast]at hs;obtain⟨⟨t,X⟩,hy⟩:=af (l.getD bn (false,0));rw[hy]at s1 s2 hs;simp only at s1 s2 hs;obtain⟨W2,hW2⟩:=af (W1.alloc (.cells #[.bool t,.int .i64 X] 121));have hB2:Below W1.heap.size W1 W2:=by rw[<-hW2];exact(ai _ _).alloc (ah _) _
    have HB2:Hid (Below w.heap.size w W2):=(hK1.next hB2).below;have t0:W2.cell? ⟨W1.heap.size,0,none⟩=some (.bool t):=by rw[<-hW2];exact aM (heap_alloc_new _ _) rfl
    have t1:W2.cell? ⟨W1.heap.size,1,none⟩=some (.int .i64 X):=by rw[<-hW2];exact aM (heap_alloc_new _ _) rfl
    have u0:=(hB2.cell (aQ _ _ r0)).trans r0;have j0:(0:Int)<=(bn:Int):=aF _;have j1:(bn:Int)<(l.length:Int):=by omega
    cases t with
    |true=>
     clear hK hr hs hx hsy ML hB1 hK1 hA hBb hc hB2 hy
     go_enter Tryz.func137,Tryz.ntmps137
     go_wp2_with
      (first
       |(go_at_call 158;with_reducible refine ia.mono ?_;rintro e w2 ⟨rfl,h2⟩;obtain rfl:W0=w2:=h2.symm;clear ia)
       |(go_at_call 158;with_reducible refine ib.mono ?_;rintro e w2 ⟨rfl,h2⟩;obtain rfl:W1=w2:=h2.symm;clear ib))
     refine aH (v:= .tuple #[.nilIface,.bool false]) (by simp[results,Tryz.results137,go_sem]) rfl ?_;exact⟨rfl,HB2.out⟩
    |false=>
     have hXL:X=L:=Dr λhne=>hs ⟨i0,i1,j0,j1,hc,rfl,hne⟩;subst hXL;have eX:(X==X)=true:=by simp
     clear hK hr hs hx hsy ML hB1 hK1 hA hBb hc hB2 hy
     go_enter Tryz.func137,Tryz.ntmps137
     go_wp2_with
      (first
       |(go_at_call 158;with_reducible refine ia.mono ?_;rintro e w2 ⟨rfl,h2⟩;obtain rfl:W0=w2:=h2.symm;clear ia)
       |(go_at_call 158;with_reducible refine ib.mono ?_;rintro e w2 ⟨rfl,h2⟩;obtain rfl:W1=w2:=h2.symm;clear ib))
     refine aH (v:= .tuple #[.nilIface,.bool false]) (by simp[results,Tryz.results137,go_sem]) rfl ?_;exact⟨rfl,HB2.out⟩
  ·have ec:(c==0)=false:=by simpa using hc
   clear hK hr hs hA hc
   go_enter Tryz.func137,Tryz.ntmps137
   go_wp2_with (go_at_call 158;refine ia.mono ?_;rintro e w2 ⟨rfl,rfl⟩)
   refine aH (v:= .tuple #[.nilIface,.bool false]) (by simp[results,Tryz.results137,go_sem]) rfl ?_;exact⟨rfl,HB.out⟩
theorem ag5{w:World}{T N:Int}{ra:Option Addr}{rc:Nat}{R:List Ru}{op:Int}{ka bn m:Nat}{L X:Int}{l:List Sy}(hr:aG w w.heap.size (.slice ra R.length rc) R)(hl:R.length<=1000)(hk:ka<R.length)(hx:R.getD ka (0,[])=(L,l))(hcl:l.length=bn+1+m)(zR:l.length<=1000)(hX:l.getD bn (false,0)=(false,X))(hne:X≠L):
 Calls Tryz.prog 137 #[.agg #[.int .i64 T,.int .i64 N,.slice ra R.length rc,.int .i64 op,.int .i64 ka,.int .i64 bn,.int .i64 0]] w λe w'=> ∃ov,e= .returned (.tuple #[.iface 248 (.agg #[.int .i64 T,.int .i64 N,.slice ra R.length rc,.int .i64 op,.int .i64 ka,.int .i64 bn,.int .i64 0,ov,.int .i64 (jU (l.take bn)).length]),.bool true])/\w'.ownsRow w.heap.size 3 1 ov (bL (λk=>decide ((R.getD k (0,[])).1=X)) R.length).length (nG (bL (λk=>decide ((R.getD k (0,[])).1=X)) R.length))/\Below w.heap.size w w':=by
 obtain⟨n,hn⟩:=af (bn+1+m);rw[hn]at hcl;have hK:=r9 (T:=T) (N:=N) (op:=op) (a:=ka) (b:=bn) (c:=0) hr;obtain⟨W0,hW0⟩:=af (w.alloc (.cells #[.int .i64 T,.int .i64 N,.slice ra R.length rc,.int .i64 op,.int .i64 ka,.int .i64 bn,.int .i64 0] 193));rw[hW0]at hK;have x2:=hK.x2;have x4:=hK.x4;have x5:=hK.x5;have x6:=hK.x6;have ia:=yj (w:=W0) (n:=ka) (m:=(R.length:Int));obtain⟨b0,o0,uM,qa,qc,hv,_,k1,k2,hsy⟩:=hK.rules.mR hk;cases hv;rw[hx]at k1 k2 hsy;simp only at k1 k2 hsy;have hqc:l.length<=qc:=by obtain⟨_,_,hv,hle⟩:=hsy.1;cases hv;exact hle
 obtain⟨ad,rfl⟩:=hsy.MG (by omega);rw[hcl]at k2 hqc;obtain⟨W1,hW1⟩:=af (W0.alloc (.cells #[.int .i64 L,.slice (some ad) n qc] 96));obtain⟨rb,hrb⟩:=af W0.heap.size;have hB1:Below W0.heap.size W0 W1:=by rw[<-hW1];exact(ai _ _).alloc (ah _) _
 have hK1:=hK.next hB1;have y5:=hK1.x5;have r0:W1.cell? ⟨rb,0,none⟩=some (.int .i64 L):=by rw[<-hW1,<-hrb];exact aM (heap_alloc_new _ _) rfl
 have r1:W1.cell? ⟨rb,1,none⟩=some (.slice (some ad) n qc):=by rw[<-hW1,<-hrb];exact aM (heap_alloc_new _ _) rfl
 have ib:=yj (w:=W1) (n:=bn) (m:=(n:Int));obtain⟨b1,o1,c1,hv1,s1,s2⟩:=(hsy.same (ko hB1)).2 bn (by omega);rw[hcl]at hv1;cases hv1;rw[hX]at s1 s2;simp only at s1 s2;obtain⟨W2,hW2⟩:=af (W1.alloc (.cells #[.bool false,.int .i64 X] 121));obtain⟨sb,hsb⟩:=af W1.heap.size;have hB2:Below W1.heap.size W1 W2:=by rw[<-hW2];exact(ai _ _).alloc (ah _) _
 have t0:W2.cell? ⟨sb,0,none⟩=some (.bool false):=by rw[<-hW2,<-hsb];exact aM (heap_alloc_new _ _) rfl
 have t1:W2.cell? ⟨sb,1,none⟩=some (.int .i64 X):=by rw[<-hW2,<-hsb];exact aM (heap_alloc_new _ _) rfl
 have u0:=(hB2.cell (aQ _ _ r0)).trans r0;have u1:=(hB2.cell (aQ _ _ r1)).trans r1;have hK2:=hK1.next hB2;have fQ:Hid (iN w T N (some ⟨b0,o0,none⟩) rc R op ka bn 0 W2):=hK2;have HU:Hid (W2.cell? ⟨rb,1,none⟩=some (.slice (some ⟨b1,o1,none⟩) n qc)/\W2.cell? ⟨sb,1,none⟩=some (.int .i64 X)):=⟨u1,t1⟩;have l7:Hid (∀wq,Below W2.heap.size W2 wq->dh wq (.slice (some ⟨b1,o1,none⟩) l.length qc) l):=λwq hq=>hsy.same (ko (hB1.trans ((hB2.mono hB1.size).trans (hq.mono (aZ hB1.size hB2.size)))));have HX:Hid (l.length=n):=hcl;have i0:(0:Int)<=(ka:Int):=aF _;have i1:(ka:Int)<(R.length:Int):=by omega
 have j0:(0:Int)<=(bn:Int):=aF _;have j1:(bn:Int)<(n:Int):=by omega
 rw[aT i0,aT i1]at ia;rw[aT j0,aT j1]at ib;have eX:(X==L)=false:=by simpa using hne
 have e0:((0:Int)==0)=true:=rfl;have agY:=λw=>Jg (ad:=⟨b1,o1,none⟩) (f:=bn) (sl:=n) (lc:=qc) (fi:=(bn:Int)) rfl (by omega) w;have HN:Hid (bn+1+m=n):=hn;clear hK hr hx hcl hsy hB1 hK1 hB2 hK2 hX hn
 go_enter Tryz.func137,Tryz.ntmps137
 go_upto_region 9 with
  (first
   |(go_at_call 158;with_reducible refine ia.mono ?_;rintro e w2 ⟨rfl,h2⟩;obtain rfl:W0=w2:=h2.symm;clear ia)
   |(go_at_call 158;with_reducible refine ib.mono ?_;rintro e w2 ⟨rfl,h2⟩;obtain rfl:W1=w2:=h2.symm;clear ib))
 obtain⟨Wd,hWd⟩:=af W2.drew;have hBd:Below W2.heap.size W2 Wd:=by rw[<-hWd];exact(ai _ _).drew
 have kU:Hid (∀wq,Below Wd.heap.size Wd wq->iN w T N (some ⟨b0,o0,none⟩) rc R op ka bn 0 wq/\dh wq (.slice (some ⟨b1,o1,none⟩) l.length qc) l/\Below W2.heap.size W2 wq):=λwq hq=>by
  have h1:Below W2.heap.size W2 wq:=hBd.trans (hq.mono hBd.size);exact⟨fQ.out.next h1,l7.out wq h1,h1⟩
 have gM:Hid (∀wq,Below Wd.heap.size Wd wq->wq.cell? ⟨w.heap.size,0,none⟩=some (.int .i64 T)/\wq.cell? ⟨w.heap.size,1,none⟩=some (.int .i64 N)/\wq.cell? ⟨w.heap.size,2,none⟩=some (.slice (some ⟨b0,o0,none⟩) R.length rc)/\wq.cell? ⟨w.heap.size,3,none⟩=some (.int .i64 op)/\wq.cell? ⟨w.heap.size,4,none⟩=some (.int .i64 ka)/\wq.cell? ⟨w.heap.size,5,none⟩=some (.int .i64 bn)/\wq.cell? ⟨w.heap.size,6,none⟩=some (.int .i64 0)/\wq.cell? ⟨rb,1,none⟩=some (.slice (some ⟨b1,o1,none⟩) n qc)/\wq.cell? ⟨sb,1,none⟩=some (.int .i64 X)):=λwq hq=>
  let h:=(kU.out wq hq).1
  let hb:=(kU.out wq hq).2.2
  ⟨h.x0,h.x1,h.x2,h.x3,h.x4,h.x5,h.x6,(hb.cell (aQ _ _ HU.out.1)).trans HU.out.1,(hb.cell (aQ _ _ HU.out.2)).trans HU.out.2⟩
 have S0:=gM.out Wd (ai _ _);clear hBd x2 x4 x5 x6 k1 k2 hW0 hW1 hW2 y5 r0 r1 t0 t1 u0 u1 s1 s2 hrb hsb;refine mK [0,1,2,3,4,5,7,8,9,10,11,12] 6 17 (λwq=>wq.cell? ⟨w.heap.size,0,none⟩=some (.int .i64 T)/\wq.cell? ⟨w.heap.size,1,none⟩=some (.int .i64 N)/\wq.cell? ⟨w.heap.size,2,none⟩=some (.slice (some ⟨b0,o0,none⟩) R.length rc)/\wq.cell? ⟨w.heap.size,3,none⟩=some (.int .i64 op)/\wq.cell? ⟨w.heap.size,4,none⟩=some (.int .i64 ka)/\wq.cell? ⟨w.heap.size,5,none⟩=some (.int .i64 bn)/\wq.cell? ⟨w.heap.size,6,none⟩=some (.int .i64 0)/\wq.cell? ⟨rb,1,none⟩=some (.slice (some ⟨b1,o1,none⟩) n qc)/\wq.cell? ⟨sb,1,none⟩=some (.int .i64 X)) (by kernel_rfl) (by kernel_rfl) (by rw[hWd];exact S0) ?_;rw[hWd];clear hWd S0
 iterate 12
  refine aW.zQ (v:= ?_) rfl (by rfl) ?_ ?_;rotate_left
  ·intro w' hSw
   obtain⟨z0,z1,z2,z3,z4,z5,z6,z7,z8⟩:=hSw
   go_simp
   try with_reducible rfl
  simp only[Act.put,eB,List.set_cons_zero,List.set_cons_succ]
 rw[aW];have n1:=ag3 (w:=Wd) (m:=X) (kU.out Wd (ai _ _)).1.all hl;refine aC.one (i:=6) (by kernel_rfl) ⟨_,rfl,λK hK=> ?_⟩
 go_simp
 refine n1.mono ?_;rintro e w3 ⟨ov,rfl,hov,hB3⟩;dsimp only;refine hK.out _ _ (λ_=>gM.out _ hB3) ?_;clear hK n1;have n2:=QZ (w:=w3) ((kU.out w3 hB3).2.1.Fj (f:=bn) (by rw[HX.out];have:=HN.out;omega)) (by rw[fq];omega);obtain⟨oa,oc,Jk⟩:=cO hov;have Zr:Hid (ov= .slice oa (bL (λk=>decide ((R.getD k (0,[])).1=X)) R.length).length oc):=Jk;obtain⟨on,hon⟩:=af ((bL (λk=>decide ((R.getD k (0,[])).1=X)) R.length).length);rw[hon]at Jk Zr;rw[Jk];rw[Jk]at hov;clear Jk Zr;refine aC.one (i:=13) (by kernel_rfl) ⟨_,rfl,λK hK=> ?_⟩
 go_simp
 refine n2.mono ?_;rintro e w4 ⟨rfl,hB4⟩;dsimp only;have wB:Below Wd.heap.size Wd w4:=hB3.trans (hB4.mono hB3.size);refine hK.out _ _ (λ_=>gM.out _ wB) ?_;clear hK n2;refine aC.one (i:=14) (by kernel_rfl) ⟨_,rfl,λK hK=> ?_⟩
 go_simp
 refine hK.out _ _ (λ_=>gM.out _ wB) ?_;clear hK;refine aC.one (i:=15) (by kernel_rfl) ⟨_,rfl,λK hK=> ?_⟩
 go_simp
 refine hK.out _ _ (λ_=>gM.out _ wB) ?_;clear hK;refine aC.one (i:=16) (by kernel_rfl) ⟨_,rfl,λK hK=> ?_⟩
 go_simp
 refine hK.out _ _ (λ_=>gM.out _ wB) ?_;clear hK;refine aC.last (i:=17) (by kernel_rfl) ⟨_,rfl,λK hK=> ?_⟩
 go_simp
 refine hK.out _ _ (λh=>absurd h (by omega)) (NoPanic.normal ?_);clear hK;have uW:Hid (w4.ownsRow w.heap.size 3 1 (.slice oa on oc) (bL (λk=>decide ((R.getD k (0,[])).1=X)) R.length).length (nG (bL (λk=>decide ((R.getD k (0,[])).1=X)) R.length))):=lq (own_below hov hB4 λg hg=>(hov.lt g hg).2) (kU.out Wd (ai _ _)).1.below.size;clear hov hon
 go_wp2_with fail
 refine aH (v:= .tuple #[.iface 248 (.agg #[.int .i64 T,.int .i64 N,.slice (some ⟨b0,o0,none⟩) R.length rc,.int .i64 op,.int .i64 ka,.int .i64 bn,.int .i64 0,.slice oa on oc,.int .i64 (jU (l.take bn)).length]),.bool true]) (by simp[results,Tryz.results137,go_sem]) rfl ?_;exact⟨_,rfl,uW.out,(kU.out w4 wB).1.below⟩
end Go.Proofs.YthbifaoaiggooaaGreatDoor
