import Derived.Test.YtblkkhfdeaaidaaGreatDoorMathAndTxSc
import Derived.Deep.Cut
import Derived.Deep.AppendLies
import Derived.Laws.AppendOwnNone
import Derived.OwnWalk
import Derived.StillTailTactics
import Derived.Deep.RegionHeld3
set_option maxHeartbeats 3200000
set_option maxRecDepth 100000
namespace Go.Proofs.YtblkkhfdeaaidaaGreatDoor
open Go.RowKit
section
variable{w:World}{b:Nat}{r p:List UInt8}{g:Bool}
theorem Js(r:List UInt8)(k:Nat):(⟨r.toArray⟩:ByteArray).extract k r.length=⟨(r.drop k).toArray⟩:=by
 apply ByteArray.ext;simp[ByteArray.data_extract];exact List.take_of_length_le (by simp)
theorem NT{n k:Nat}(h:bF w b r g)(hN:fu r=(n,k))(hk:k=0):bF ((w.setCell ⟨b,1,none⟩ (.bool true)).setCell ⟨b,0,none⟩ (.string ((⟨r.toArray⟩:ByteArray).extract k r.length))) b (r.drop (fu r).2) (g||(fu r).2==0)/\But b w ((w.setCell ⟨b,1,none⟩ (.bool true)).setCell ⟨b,0,none⟩ (.string ((⟨r.toArray⟩:ByteArray).extract k r.length))):=by
 rw[Js,hN];have e:(g||k==0)=true:=by rw[hk];simp
 refine⟨?_,(But.set _ _ _).trans (But.set _ _ _)⟩;show bF _ b (r.drop k) (g||k==0);rw[e];exact(h.set1 true).set0 _
theorem Jt{n k:Nat}(h:bF w b r g)(hN:fu r=(n,k))(hk:¬k=0):bF (w.setCell ⟨b,0,none⟩ (.string ((⟨r.toArray⟩:ByteArray).extract k r.length))) b (r.drop (fu r).2) (g||(fu r).2==0)/\But b w (w.setCell ⟨b,0,none⟩ (.string ((⟨r.toArray⟩:ByteArray).extract k r.length))):=by
 rw[Js,hN];have e:(g||k==0)=g:=by simp[hk]
 refine⟨?_,But.set _ _ _⟩;show bF _ b (r.drop k) (g||k==0);rw[e];exact h.set0 _
theorem WZ(h:bF w b r g):Calls Tryz.prog 124 #[.pointer (some ⟨b,0,none⟩)] w fun e w'=>e= .returned (.int .i64 ((fu r).1:Nat))/\bF w' b (r.drop (fu r).2) (g||(fu r).2==0)/\But b w w':=by
 have c0:w.cell? ⟨b,0,none⟩=some (.string ⟨r.toArray⟩):=ai h rfl;have c1:w.cell? ⟨b,1,none⟩=some (.bool g):=ai h rfl;have f0:w.frozen? ⟨b,0,none⟩=false:=bD h;have f1:w.frozen? ⟨b,1,none⟩=false:=bD h;have HS:Hid (bF w b r g):=h;clear h
 go_enter Tryz.func124,Tryz.ntmps124
 go_wp2_with fail
 go_loopw [3,4] (fun s3 s4 wr=> ∃n k:Nat,s3= .int .i64 n/\s4= .int .i64 k/\k<=4/\k<=r.length/\n<10^k/\yu r (4-k) n k=fu r/\wr=w) (fun _ s _=>4-(intOf s).toNat)
 case atStart=>exact⟨0,0,rfl,rfl,by omega,by omega,by omega,rfl,rfl⟩
 case round=>
  obtain⟨n,k,rfl,rfl,hk4,hkl,hn,jD,rfl⟩:=hrel;have hP:n<10000:=Nat.lt_of_lt_of_le hn (Nat.pow_le_pow_right (by omega) hk4:10^k<=10^4);by_cases h1:k<r.length/\k<4
  ·obtain⟨f,hf⟩:∃f,4-k=f+1:=⟨3-k,by omega⟩
   have hf':4-(k+1)=f:=by omega
   rw[hf,yu]at jD;have i1:decide ((k:Int)<min (r.length:Int) 4)=true:=decide_eq_true (by omega);have i2:(k:Int)<min (r.length:Int) 4:=by omega
   have i3:(k:Int)<(r.length:Int):=by omega
   have i4:k<r.length:=h1.1;have i5:(0:Int)<=(k:Int):=by omega
   obtain⟨c,hc⟩:∃c,r.getD k 0=c:=⟨_,rfl⟩
   have hb:(⟨r.toArray⟩:ByteArray)[k]'(by simpa [ByteArray.size] using i4)=c:=by
    rw[<-hc];simp[ByteArray.getElem_eq_getElem_data,List.getD,i4]
   rw[hc,decide_eq_true i4]at jD;have dg:=WV c wr;cases hd:sD c with
   |false=>
    rw[hd]at dg;rw[hd]at jD;simp only[Bool.true_and,Bool.false_and,Bool.false_eq_true,if_false]at jD;have HN:Hid (fu r=(n,k)):=jD.symm;clear jD hn hd hc
    go_wp2_with
     (go_at_call 157;refine dg.mono ?_;rintro e w2 ⟨rfl,h2⟩;obtain rfl:wr=w2:=h2.symm;clear dg)
    ·rename_i hz
     go_ret;exact⟨by rw[HN.out];rfl,NT HS.out HN.out (by simpa using hz)⟩
    ·rename_i hz
     go_ret;exact⟨by rw[HN.out];rfl,Jt HS.out HN.out (by simpa using hz)⟩
   |true=>
    rw[hd]at dg jD;have hD:=hd;simp only[sD,Bool.and_eq_true,decide_eq_true_eq]at hD;by_cases hg:k=0\/0<n
    ·have hgb:(k==0||decide (0<n))=true:=by simpa using hg
     rw[hgb]at jD;simp only[Bool.true_and,if_true]at jD
     have HN:Hid (yu r (4-(k+1)) (n*10+(c.toNat-48)) (k+1)=fu r):=by
      show _=_;rw[hf'];exact jD
     have HL:Hid (n*10+(c.toNat-48)<10^(k+1)):=by
      show _<_;rw[Nat.pow_succ];omega
     have n1:((n:Int)*10+((c.toNat:Int)-48))=((n*10+(c.toNat-48):Nat):Int):=by omega
     clear jD hn hd hc hgb;by_cases hk0:k=0
     ·have b1:((k:Int)==0)=true:=by simp[hk0]
      clear hk0 hg
      go_wp2_with
       (go_at_call 157;refine dg.mono ?_;rintro e w2 ⟨rfl,h2⟩;obtain rfl:wr=w2:=h2.symm;clear dg)
      go_roundw
      case rel=>exact⟨n*10+(c.toNat-48),k+1,by go_num,by go_num,by omega,by omega,HL.out,HN.out,by first|rfl|trivial⟩
      case measure=>simp[intOf];omega
     ·have b1:((k:Int)==0)=false:=by simp[hk0]
      have b2:decide ((0:Int)<(n:Int))=true:=decide_eq_true (by omega);have b3:decide ((n:Int)>0)=true:=b2;have b4:decide (0<n)=true:=decide_eq_true (by omega)
      go_wp2_with
       (go_at_call 157;refine dg.mono ?_;rintro e w2 ⟨rfl,h2⟩;obtain rfl:wr=w2:=h2.symm;clear dg)
      go_roundw
      case rel=>exact⟨n*10+(c.toNat-48),k+1,by go_num,by go_num,by omega,by omega,HL.out,HN.out,by first|rfl|trivial⟩
      case measure=>simp[intOf];omega
    ·have hgb:(k==0||decide (0<n))=false:=by simp;omega
     rw[hgb]at jD;simp only[Bool.and_false,Bool.false_eq_true,if_false]at jD;have HN:Hid (fu r=(n,k)):=jD.symm;have b1:((k:Int)==0)=false:=by simp;omega
     have b2:decide ((0:Int)<(n:Int))=false:=decide_eq_false (by omega);have b3:decide ((n:Int)>0)=false:=b2;have b4:decide (0<n)=false:=decide_eq_false (by omega);clear jD hn hd hc hgb
     go_wp2_with
      (go_at_call 157;refine dg.mono ?_;rintro e w2 ⟨rfl,h2⟩;obtain rfl:wr=w2:=h2.symm;clear dg)
     go_ret;exact⟨by rw[HN.out];rfl,Jt HS.out HN.out (by omega)⟩
  ·have i1:decide ((k:Int)<min (r.length:Int) 4)=false:=decide_eq_false (by omega)
   have i2:¬(k:Int)<min (r.length:Int) 4:=by omega
   have HN:Hid (fu r=(n,k)):=by
    show _=_;rw[<-jD];by_cases h4:k=4
    ·rw[h4,Nat.sub_self,yu]
    ·obtain⟨f,hf⟩:∃f,4-k=f+1:=⟨3-k,by omega⟩
     have hl:decide (k<r.length)=false:=decide_eq_false (by omega);rw[hf,yu,hl];simp
   clear jD hn
   go_wp2_with fail
   ·rename_i hz
    go_ret;exact⟨by rw[HN.out];rfl,NT HS.out HN.out (by simpa using hz)⟩
   ·rename_i hz
    go_ret;exact⟨by rw[HN.out];rfl,Jt HS.out HN.out (by simpa using hz)⟩
end
abbrev dQ:=List UInt8×Bool
def eP(p:List UInt8)(s:dQ):dQ:=(Lib.trimPrefix s.1 p,s.2|| !Lib.hasPrefix s.1 p)
def gF(s:dQ):dQ:=(s.1.drop (fu s.1).2,s.2||(fu s.1).2==0)
def wu(s:dQ):Bool:=Lib.hasPrefix (eP [32] s).1 [116]
def jQ(s:dQ):dQ:=(Lib.trimPrefix (eP [32] s).1 [116],(eP [32] s).2)
def mQ(s:dQ):dQ:=if wu s then jQ s else eP [110] (jQ s)
def jE(s:dQ):dQ:=gF (mQ s)
section
variable{w w' a:World}{b:Nat}{s:dQ}{r:List UInt8}{g:Bool}
theorem zO(h:bF w b s.1 s.2)(p:List UInt8):Calls Tryz.prog 123 #[.pointer (some ⟨b,0,none⟩),.string ⟨p.toArray⟩] w fun e w'=>e= .returned (.tuple #[])/\bF w' b (eP p s).1 (eP p s).2/\But b w w':=WY h p
theorem Cb(h:bF w b s.1 s.2):Calls Tryz.prog 124 #[.pointer (some ⟨b,0,none⟩)] w fun e w'=>e= .returned (.int .i64 ((fu s.1).1:Nat))/\bF w' b (gF s).1 (gF s).2/\But b w w':=WZ h
theorem NU(h:bF w b (eP [32] s).1 (eP [32] s).2):Calls Tryz.prog 156 #[.pointer (some ⟨b,0,none⟩),.string ⟨[116].toArray⟩] w fun e w'=>e= .returned (.bool (wu s))/\bF w' b (jQ s).1 (jQ s).2/\But b w w':=NS h [116]
theorem bF.alloc(h:bF w b r g)(o:Obj):bF (w.alloc o) b r g:=(Below.heap_alloc w o b h.lt).trans h
theorem But.alloc(b:Nat)(o:Obj):But b w (w.alloc o):=But.of b ((Below.refl _ _).alloc (Nat.le_refl _) o)
theorem But.Fp(h:But b a w){p:Nat}(hp:a.heap.size<=p)(i:Nat)(u:Value):But b a (w.setCell ⟨p,i,none⟩ u):=by
 have k:Below 0 w (w.setCell ⟨p,i,none⟩ u):=(Below.refl _ _).setCell (Nat.zero_le _) u;exact⟨k.os.trans h.os,k.tape.trans h.tape,k.output.trans h.output,Nat.le_trans h.size k.size,fun j hj hb=>(Below.heap_setCell w _ u j (by show j≠p;omega)).trans (h.block j hj hb)⟩
theorem bF.zP(h:bF w b r g){p:Nat}(hp:p≠b)(i:Nat)(u:Value):bF (w.setCell ⟨p,i,none⟩ u) b r g:=(Below.heap_setCell w _ u b (by show b≠p;omega)).trans h
theorem Xa(h:bF w b s.1 s.2):Calls Tryz.prog 127 #[.pointer (some ⟨b,0,none⟩)] w fun e w'=>e= .returned (.agg #[.bool (wu s),.int .i64 ((fu (mQ s).1).1:Nat)])/\bF w' b (jE s).1 (jE s).2/\But b w w':=by
 obtain⟨W1,hW1⟩:∃W,w.alloc (.cells #[.bool false,.int .i64 0] 116)=W:=⟨_,rfl⟩;obtain⟨p,hp⟩:∃x,w.heap.size=x:=⟨_,rfl⟩;have hx:=heap_alloc_new w (.cells #[.bool false,.int .i64 0] 116);rw[hW1,hp]at hx;have hB1:But b w W1:=by rw[<-hW1];exact But.alloc _ _
 have h1:bF W1 b s.1 s.2:=by rw[<-hW1];exact h.alloc _
 have hlt:=h.lt;rw[hp]at hlt
 have HG:Hid (∀wq,But b W1 wq->wq.heap[p]?=some (.cells #[.bool false,.int .i64 0] 116 (0,0))/\But b w wq):=fun wq hq=>
  ⟨(hq.block p (Array.getElem?_eq_some_iff.1 hx).1 (by omega)).trans hx,hB1.trans hq⟩
 have HP:Hid (w.heap.size=p/\b<p):=⟨hp,hlt⟩;have wd:=zO h1 [32];clear h hx hB1 h1 hlt;cases hT:wu s with
 |true=>
  have hB:mQ s=jQ s:=by unfold mQ;rw[hT];rfl
  have HS:Hid (jE s=gF (jQ s)/\mQ s=jQ s):=⟨by unfold jE;rw[hB],hB⟩;have HT:Hid (wu s=true):=hT;clear hT hB
  go_enter Tryz.func127,Tryz.ntmps127
  go_wp2_with
   (first
    |(go_at_call 123;refine wd.mono ?_;rintro e w2 ⟨rfl,h2,h3⟩
      have tk:=NU h2;rw[HT.out]at tk;have H2:Hid (But b W1 w2):=h3
      clear wd h2 h3)
    |(go_at_call 156;refine tk.mono ?_;rintro e w3 ⟨rfl,h2,h3⟩
      have nu:=Cb h2;have H3:Hid (But b W1 w3):=H2.out.trans h3
      clear tk h2 h3)
    |(go_at_call 124;refine nu.mono ?_;rintro e w4 ⟨rfl,h2,h3⟩
      have H4:Hid (But b W1 w4/\bF w4 b (gF (jQ s)).1 (gF (jQ s)).2):=⟨H3.out.trans h3,h2⟩;have hq:=(HG.out w4 H4.out.1).1;have c0:w4.cell? ⟨p,0,none⟩=some (.bool false):=ai hq rfl;have c1:w4.cell? ⟨p,1,none⟩=some (.int .i64 0):=ai hq rfl;have f0:w4.frozen? ⟨p,0,none⟩=false:=bD hq;have f1:w4.frozen? ⟨p,1,none⟩=false:=bD hq
      clear nu h2 h3 hq))
  have hq:=Lib.heap_setCell_same (i:=1) (Lib.heap_setCell_same (i:=0) (HG.out w4 H4.out.1).1 (.bool true)) (.int .i64 ((fu (jQ s).1).1:Nat));have x0:=ai (i:=0) hq rfl;have x1:=ai (i:=1) hq rfl;refine bodyPost_ret (v:= .agg #[.bool true,.int .i64 ((fu (jQ s).1).1:Nat)]) (by simp[results,Tryz.results127,go_sem,x0,x1]) rfl ⟨by rw[HS.out.2],?_,?_⟩
  ·rw[HS.out.1]
   exact(H4.out.2.zP (by have:=HP.out.2;omega) _ _).zP (by have:=HP.out.2;omega) _ _
  ·exact((HG.out w4 H4.out.1).2.Fp (by have:=HP.out.1;omega) _ _).Fp (by have:=HP.out.1;omega) _ _
 |false=>
  have hB:mQ s=eP [110] (jQ s):=by unfold mQ;rw[hT];rfl
  have HS:Hid (jE s=gF (eP [110] (jQ s))/\mQ s=eP [110] (jQ s)):=⟨by unfold jE;rw[hB],hB⟩;have HT:Hid (wu s=false):=hT;clear hT hB
  go_enter Tryz.func127,Tryz.ntmps127
  go_wp2_with
   (first
    |(go_at_call 123;refine wd.mono ?_;rintro e w2 ⟨rfl,h2,h3⟩
      have tk:=NU h2;rw[HT.out]at tk;have H2:Hid (But b W1 w2):=h3
      clear wd h2 h3)
    |(go_at_call 156;refine tk.mono ?_;rintro e w3 ⟨rfl,h2,h3⟩
      have wo:=zO h2 [110];have H3:Hid (But b W1 w3):=H2.out.trans h3
      clear tk h2 h3)
    |(go_at_call 123;refine wo.mono ?_;rintro e w5 ⟨rfl,h2,h3⟩
      have nu:=Cb h2;have H5:Hid (But b W1 w5):=H3.out.trans h3
      clear wo h2 h3)
    |(go_at_call 124;refine nu.mono ?_;rintro e w4 ⟨rfl,h2,h3⟩
      have H4:Hid (But b W1 w4/\bF w4 b (gF (eP [110] (jQ s))).1 (gF (eP [110] (jQ s))).2):=⟨H5.out.trans h3,h2⟩;have hq:=(HG.out w4 H4.out.1).1;have c0:w4.cell? ⟨p,0,none⟩=some (.bool false):=ai hq rfl;have c1:w4.cell? ⟨p,1,none⟩=some (.int .i64 0):=ai hq rfl;have f0:w4.frozen? ⟨p,0,none⟩=false:=bD hq;have f1:w4.frozen? ⟨p,1,none⟩=false:=bD hq
      clear nu h2 h3 hq))
  have hq:=Lib.heap_setCell_same (i:=1) (Lib.heap_setCell_same (i:=0) (HG.out w4 H4.out.1).1 (.bool false)) (.int .i64 ((fu (eP [110] (jQ s)).1).1:Nat));have x0:=ai (i:=0) hq rfl;have x1:=ai (i:=1) hq rfl;refine bodyPost_ret (v:= .agg #[.bool false,.int .i64 ((fu (eP [110] (jQ s)).1).1:Nat)]) (by simp[results,Tryz.results127,go_sem,x0,x1]) rfl ⟨by rw[HS.out.2],?_,?_⟩
  ·rw[HS.out.1]
   exact(H4.out.2.zP (by have:=HP.out.2;omega) _ _).zP (by have:=HP.out.2;omega) _ _
  ·exact((HG.out w4 H4.out.1).2.Fp (by have:=HP.out.1;omega) _ _).Fp (by have:=HP.out.1;omega) _ _
end
def yw(l:List UInt8):dQ:=eP [116,101,114,109,115,32] (l,false)
def yx(l:List UInt8):dQ:=eP [32,110,97,109,101,115,32] (gF (yw l))
def kW(l:List UInt8):Nat:=(fu (yw l).1).1
def hdN(l:List UInt8):Nat:=(fu (yx l).1).1
def Fq(l:List UInt8):Bool:= !(gF (yx l)).2&&(gF (yx l)).1.isEmpty
section
variable{w w' a:World}{b:Nat}{s:dQ}{r:List UInt8}{g:Bool}
theorem NV(h:bF w b s.1 s.2):Calls Tryz.prog 125 #[.pointer (some ⟨b,0,none⟩)] w fun e w'=>e= .returned (.bool (!s.2&&s.1.isEmpty))/\w'=w:=WX h
theorem NW(w:World)(l:List UInt8):bF (w.alloc (.cells #[.string ⟨l.toArray⟩,.bool false] 210)) w.heap.size (l,false).1 (l,false).2:=heap_alloc_new w _
theorem But.other{p:Nat}{u v:World}(h:But b w u)(k:But p u v)(hp:w.heap.size<=p):But b w v:=
 ⟨k.os.trans h.os,k.tape.trans h.tape,k.output.trans h.output,Nat.le_trans h.size k.size,fun i hi hb=>(k.block i (Nat.lt_of_lt_of_le hi h.size) (by omega)).trans (h.block i hi hb)⟩
theorem Xb{gb:Nat}{t n:Int}{x2:Value}(l:List UInt8)(hg:w.heap[gb]?=some (.cells #[.int .i64 t,.int .i64 n,x2] 26 (0,0))):Calls Tryz.prog 94 #[.pointer (some ⟨gb,0,none⟩),.string ⟨l.toArray⟩] w fun e w'=>e= .returned (.bool (Fq l))/\w'.heap[gb]?=some (.cells #[.int .i64 (kW l),.int .i64 (hdN l),x2] 26 (0,0))/\But gb w w':=by
 obtain⟨W1,hW1⟩:∃W,w.alloc (.cells #[.string ⟨l.toArray⟩,.bool false] 210)=W:=⟨_,rfl⟩;obtain⟨p,hp⟩:∃x,w.heap.size=x:=⟨_,rfl⟩;have h1:=NW w l;rw[hW1,hp]at h1;have hlt:gb<w.heap.size:=(Array.getElem?_eq_some_iff.1 hg).1;have hg1:W1.heap[gb]?=some (.cells #[.int .i64 t,.int .i64 n,x2] 26 (0,0)):=by rw[<-hW1];exact(Below.heap_alloc w _ gb hlt).trans hg
 have HB1:Hid (But gb w W1/\w.heap.size=p/\gb<p):=⟨by rw[<-hW1];exact But.alloc _ _,hp,by omega⟩;have Cc:Hid (W1.heap[gb]?=some (.cells #[.int .i64 t,.int .i64 n,x2] 26 (0,0))):=hg1;have wd:=zO h1 [116,101,114,109,115,32];have HA:Hid (yw l=eP [116,101,114,109,115,32] (l,false)):=rfl;rw[<-HA.out]at wd;have HW:Hid (w.alloc (.cells #[.string ⟨l.toArray⟩,.bool false] 210)=W1):=hW1;clear hg h1 hlt hg1 hW1 hp
 go_enter Tryz.func94,Tryz.ntmps94
 go_upto_region 2 with fail
 rw[HW.out];rw[HB1.out.2.1]
 go_wp2_with
  (first
   |(go_at_call 123;refine wd.mono ?_;rintro e w2 ⟨rfl,h2,h3⟩
     have nu:=Cb h2;have H2:Hid (But p W1 w2):=h3
     clear wd h2 h3)
   |(go_at_call 124;refine nu.mono ?_;rintro e w3 ⟨rfl,h2,h3⟩
     have hq:=(H2.out.trans h3).block gb (Array.getElem?_eq_some_iff.1 Cc.out).1 (by have:=HB1.out.2.2;omega);rw[Cc.out]at hq;have c0:w3.cell? ⟨gb,0,none⟩=some (.int .i64 t):=ai hq rfl;have f0:w3.frozen? ⟨gb,0,none⟩=false:=bD hq;obtain⟨w4,hw4⟩:∃x,w3.setCell ⟨gb,0,none⟩ (.int .i64 ((fu (yw l).1).1:Nat))=x:=⟨_,rfl⟩
     have H4:Hid (But gb w w4/\w4.heap[gb]?=some (.cells #[.int .i64 (kW l),.int .i64 n,x2] 26 (0,0))):=by
      rw[<-hw4];exact⟨(HB1.out.1.other (H2.out.trans h3) (by have:=HB1.out.2.1;omega)).trans (But.set _ _ _),Lib.heap_setCell_same hq _⟩
     have h4:bF w4 p (gF (yw l)).1 (gF (yw l)).2:=by rw[<-hw4];exact h2.zP (by have:=HB1.out.2.2;omega) _ _
     have wo:=zO h4 [32,110,97,109,101,115,32];have dH:Hid (yx l=eP [32,110,97,109,101,115,32] (gF (yw l))):=rfl;rw[<-dH.out]at wo
     clear nu h2 h3 hq h4)
   |(go_at_call 123;refine wo.mono ?_;rintro e w5 ⟨rfl,h2,h3⟩
     have nb:=Cb h2;have H5:Hid (But p w4 w5):=h3
     clear wo h2 h3)
   |(go_at_call 124;refine nb.mono ?_;rintro e w6 ⟨rfl,h2,h3⟩
     have hq:=(H5.out.trans h3).block gb (Array.getElem?_eq_some_iff.1 H4.out.2).1 (by have:=HB1.out.2.2;omega);rw[H4.out.2]at hq;have c1:w6.cell? ⟨gb,1,none⟩=some (.int .i64 n):=ai hq rfl;have f1:w6.frozen? ⟨gb,1,none⟩=false:=bD hq;obtain⟨w7,hw7⟩:∃x,w6.setCell ⟨gb,1,none⟩ (.int .i64 ((fu (yx l).1).1:Nat))=x:=⟨_,rfl⟩
     have H7:Hid (But gb w w7/\w7.heap[gb]?=some (.cells #[.int .i64 (kW l),.int .i64 (hdN l),x2] 26 (0,0))):=by
      rw[<-hw7];exact⟨(H4.out.1.other (H5.out.trans h3) (by have:=HB1.out.2.1;omega)).trans (But.set _ _ _),Lib.heap_setCell_same hq _⟩
     have h4:bF w7 p (gF (yx l)).1 (gF (yx l)).2:=by rw[<-hw7];exact h2.zP (by have:=HB1.out.2.2;omega) _ _
     have dn:=NV h4
     clear nb h2 h3 hq h4)
   |(go_at_call 125;refine dn.mono ?_;rintro e w8 ⟨rfl,h8⟩;obtain rfl:w7=w8:=h8.symm;clear dn))
 go_ret;exact⟨rfl,H7.out.2,H7.out.1⟩
end
def yA(s:Sy):List Value:=[.bool s.1,.int .i64 s.2]
def iy(l:List Sy):List Value:=l.flatMap yA
theorem NY{l:List Sy}{i j:Nat}(hi:i<l.length)(hj:j<2):(iy l)[i*2+j]?=(yA (l.getD i (false,0)))[j]?:=by
 unfold iy
 induction l generalizing i with
 |nil=>simp at hi
 |cons a L ih=>
  rw[List.flatMap_cons];cases i with
  |zero=>rw[List.getElem?_append_left (by simp[yA];omega)];simp
  |succ i=>
   rw[List.getElem?_append_right (by simp[yA];omega)];simp only[yA,List.length_cons,List.length_nil];rw[show (i+1)*2+j-(0+1+1)=i*2+j by omega];have:=ih (i:=i) (by simpa using hi);simpa [List.getD,yA] using this
theorem Xc(l:List Sy)(s:Sy):iy (l++[s])=iy l++[.bool s.1,.int .i64 s.2]:=by simp[iy,yA]
theorem Tryz.infoSy9:(Tryz.prog.info? 116).map (fun i=>(i.zero,i.size,i.bytes))=some (some (.agg #[.bool false,.int .i64 0]),2,16):=by kernel_rfl
theorem Tryz.infoRu9:(Tryz.prog.info? 91).map (fun i=>(i.zero,i.size,i.bytes))=some (some (.agg #[.int .i64 0,.slice none 0 0]),2,32):=by kernel_rfl
theorem jg{w w':World}{base:Nat}{e:TypeId}{size n:Nat}{v:Value}{xs:List Value}(h:w.ownsRow base e size v n xs)(hb:∀g,v.ownBlock=some g->w'.heap[g]?=w.heap[g]?):w'.ownsRow base e size v n xs:=by
 refine⟨h.1,?_⟩;rcases h.2 with h2|⟨g,cap,cur,rfl,h2,h3,h4⟩
 ·exact .inl h2
 ·exact .inr ⟨g,cap,cur,rfl,h2,by rw[hb g rfl];exact h3,h4⟩
structure qj(w:World)(p:Nat)(L:Int)(rv:Value)(A:List Sy):Prop where
 at_:w.heap[p]?=some (.cells #[.int .i64 L,rv] 91 (0,0))
 own:w.ownsRow (p+1) 116 2 rv A.length (iy A)
section
variable{w w':World}{p b:Nat}{L:Int}{rv:Value}{A:List Sy}
theorem qj.lt(h:qj w p L rv A):p<w.heap.size:=(Array.getElem?_eq_some_iff.1 h.at_).1
theorem qj.but(h:qj w p L rv A)(hb:But b w w')(hp:b<p):qj w' p L rv A:=
 ⟨(hb.block p h.lt (by omega)).trans h.at_,jg h.own fun g hg=>hb.block g (h.own.lt g hg).2 (by have:=(h.own.lt g hg).1;omega)⟩
theorem qj.later(h:qj w p L rv A)(hb:Below w.heap.size w w'):qj w' p L rv A:=
 ⟨(hb.block p h.lt).trans h.at_,jg h.own fun g hg=>hb.block g (h.own.lt g hg).2⟩
theorem qj.put(h:qj w p L rv A){rv':Value}{A':List Sy}(hg:w.grownBy w' rv.ownBlock)(ho:w'.ownsRow (p+1) 116 2 rv' A'.length (iy A')):qj (w'.setCell ⟨p,1,none⟩ rv') p L rv' A':=by
 have hb:w'.heap[p]?=w.heap[p]?:=hg.block p h.lt fun e=>by have:=(h.own.lt p e.symm).1;omega
 exact⟨Lib.heap_setCell_same (hb.trans h.at_) _,jg ho fun g hgg=>Below.heap_setCell _ _ _ g (by have:=(ho.lt g hgg).1;show g≠p;omega)⟩
end
def wB:Nat->dQ->List Sy->dQ×List Sy
 |0,s,A=>(s,A)
 |f+1,s,A=>if (!s.2&& !s.1.isEmpty)=true then wB f (jE s) (if A.length<=8 then A++[(wu s,((fu (mQ s).1).1:Int))] else A) else (s,A)
def sH(l:List UInt8):dQ:=eP [110] (l,false)
def Cf(l:List UInt8):dQ:=eP [58] (gF (sH l))
def dB(l:List UInt8):Nat:=(fu (sH l).1).1
def cZ(l:List UInt8):dQ×List Sy:=wB ((Cf l).1.length+1) (Cf l) []
def yB(l:List UInt8):Bool:= !(cZ l).1.2&&(cZ l).1.1.isEmpty
def mz(s:dQ):Nat:=if s.2 then 0 else s.1.length+1
def Fs(b:Nat)(w:World):Nat:=match w.cell? ⟨b,0,none⟩,w.cell? ⟨b,1,none⟩ with
 |some (.string r),some (.bool g)=>if g then 0 else r.size+1
 |_,_=>0
theorem Ju{w:World}{b:Nat}{s:dQ}(h:bF w b s.1 s.2):Fs b w=mz s:=by
 unfold Fs mz;rw[ai (i:=0) h rfl,ai (i:=1) h rfl];simp[ByteArray.size]
theorem NZ(s p:List UInt8):(Lib.trimPrefix s p).length<=s.length:=by
 unfold Lib.trimPrefix;split<;>simp
theorem Xd(p:List UInt8)(s:dQ):(eP p s).1.length<=s.1.length:=NZ _ _
theorem Xe(s:dQ):(gF s).1.length<=s.1.length:=by simp[gF]
theorem Xf{s:dQ}(h:s.2=true):(gF s).2=true:=by simp[gF,h]
theorem Xg{p:List UInt8}{s:dQ}(h:s.2=true):(eP p s).2=true:=by simp[eP,h]
theorem N7(s:dQ):(jQ s).1.length<=(eP [32] s).1.length:=NZ _ _
theorem Xh(s:dQ):(mQ s).1.length<=(eP [32] s).1.length:=by
 unfold mQ;split
 ·exact N7 s
 ·exact Nat.le_trans (Xd _ _) (N7 s)
theorem Xi{s:dQ}(h:(eP [32] s).2=true):(mQ s).2=true:=by
 unfold mQ;split
 ·exact h
 ·exact Xg h
theorem Jv{s:dQ}(h:(!s.2&& !s.1.isEmpty)=true):mz (jE s)<mz s:=by
 obtain⟨r,g⟩:=s;simp only[Bool.and_eq_true,Bool.not_eq_true']at h;obtain⟨hg,hr⟩:=h;subst hg;have e1:mz (r,false)=r.length+1:=rfl;rw[e1];cases hp:Lib.hasPrefix r [32] with
 |false=>
  have:(jE (r,false)).2=true:=Xf (Xi (by simp[eP,hp]));simp[mz,this]
 |true=>
  have h1:(eP [32] (r,false)).1.length=r.length-1:=by simp[eP,Lib.trimPrefix,hp]
  have h2:=Xh (r,false);have h3:=Xe (mQ (r,false))
  have h4:0<r.length:=by cases r with
   |nil=>simp at hr
   |cons _ _=>simp
  have h5:mz (jE (r,false))<=(jE (r,false)).1.length+1:=by unfold mz;split<;>omega
  have h6:(jE (r,false)).1.length<=r.length-1:=by unfold jE;omega
  omega
theorem Xj{s:dQ}{A:List Sy}(f:Nat)(h:(!s.2&& !s.1.isEmpty)=false):wB f s A=(s,A):=by
 cases f with
 |zero=>rfl
 |succ f=>rw[wB,h];simp
theorem Xk{s:dQ}(h:(!s.2&& !s.1.isEmpty)=true):0<mz s:=Nat.lt_of_le_of_lt (Nat.zero_le _) (Jv h)
structure Row where
 v:Value
 e:TypeId
 size:Nat
 n:Nat
 xs:List Value
structure ah{ι:Type}(w:World)(base:Nat)(P:ι->Option Row):Prop where
 own:∀i r,P i=some r->w.ownsRow base r.e r.size r.v r.n r.xs
 apart:∀i j a b,i≠j->P i=some a->P j=some b->∀g,a.v.ownBlock=some g->b.v.ownBlock=some g->False
def upd{ι:Type}[DecidableEq ι](P:ι->Option Row)(i:ι)(r:Row):ι->Option Row:=fun j=>if j=i then some r else P j
section
variable{ι:Type}{w:World}{base:Nat}{P:ι->Option Row}
theorem ah.drew(h:ah w base P):ah w.drew base P:=⟨h.own,h.apart⟩
theorem ah.alloc(h:ah w base P)(o:Obj):ah (w.alloc o) base P:=⟨fun i r hr=>(h.own i r hr).alloc o,h.apart⟩
theorem ah.lt(h:ah w base P){i:ι}{r:Row}(hi:P i=some r){g:Nat}(hg:r.v.ownBlock=some g):base<=g/\g<w.heap.size:=(h.own i r hi).lt g hg
theorem ah.below(h:ah w base P){B:Nat}{w':World}(hb:Below B w w')(hB:w.heap.size<=B):ah w' base P:=
 ⟨fun _ _ hr=>own_below (h.own _ _ hr) hb fun _ hg=>Nat.lt_of_lt_of_le (h.lt hr hg).2 hB,h.apart⟩
theorem ah.setOther(h:ah w base P){a:Addr}(ha:∀i r,P i=some r->r.v.ownBlock≠some a.block)(u:Value):ah (w.setCell a u) base P:=by
 refine⟨fun i r hr=> ?_,h.apart⟩;obtain⟨h1,h2⟩:=h.own i r hr;refine⟨h1,?_⟩;rcases h2 with h2|⟨g,cap,cur,hv,hg,hh,rest⟩
 ·exact .inl h2
 ·refine .inr ⟨g,cap,cur,hv,hg,?_,rest⟩
  rw[Below.heap_setCell _ _ _ _ (fun e=>ha i r hr (by rw[hv,e];rfl))];exact hh
theorem ah.sJ(h:ah w base P){a:Addr}(ha:a.block<base)(u:Value):ah (w.setCell a u) base P:=
 h.setOther (fun _ _ hr e=>by have:=(h.lt hr e).1;omega) u
variable[DecidableEq ι]
theorem upd_same(P:ι->Option Row)(i:ι)(r:Row):upd P i r i=some r:=by simp[upd]
theorem ql(P:ι->Option Row){i j:ι}(h:j≠i)(r:Row):upd P i r j=P j:=by simp[upd,h]
theorem zQ{P:ι->Option Row}{i j:ι}{r a:Row}(h:upd P i r j=some a):(j=i/\a=r)\/(j≠i/\P j=some a):=by
 unfold upd at h;split at h
 ·rename_i e
  exact .inl ⟨e,by simpa using h.symm⟩
 ·rename_i e
  exact .inr ⟨e,h⟩
theorem ah.put(h:ah w base P){i:ι}{r':Row}{w':World}(hown:w'.ownsRow base r'.e r'.size r'.v r'.n r'.xs)
 (hkeep:∀j a,j≠i->P j=some a->w'.ownsRow base a.e a.size a.v a.n a.xs)
 (hfresh:∀j a,j≠i->P j=some a->∀g,a.v.ownBlock=some g->r'.v.ownBlock=some g->False):ah w' base (upd P i r'):=by
 refine⟨fun j a ha=> ?_,fun j k a b hjk ha hb g h1 h2=> ?_⟩
 ·rcases zQ ha with⟨_,rfl⟩|⟨hj,ha⟩
  ·exact hown
  ·exact hkeep j a hj ha
 ·rcases zQ ha with⟨hj,e1⟩|⟨hj,ha'⟩
  ·rcases zQ hb with⟨hk,_⟩|⟨hk,hb'⟩
   ·exact hjk (by rw[hj,hk])
   ·subst e1
    exact hfresh k b hk hb' g h2 h1
  ·rcases zQ hb with⟨hk,e1⟩|⟨hk,hb'⟩
   ·subst e1
    exact hfresh j a hj ha' g h1 h2
   ·exact h.apart j k a b hjk ha' hb' g h1 h2
theorem ah.new(h:ah w base P)(i:ι){w':World}{r:Row}(hg:w.grownBy w' none)(hown:w'.ownsRow base r.e r.size r.v r.n r.xs)(hv:∀g,r.v.ownBlock=some g->g=w.heap.size):ah w' base (upd P i r):=by
 refine h.put hown (fun j a _ ha=>(h.own j a ha).kept hg ?_) (fun j a _ ha g h1 h2=> ?_)
 ·cases a.v.ownBlock<;>simp
 ·have:=(h.lt ha h1).2
  have:=hv g h2;omega
theorem ah.turn(h:ah w base P){i:ι}{r r':Row}(hi:P i=some r){w':World}(hg:w.grownBy w' r.v.ownBlock)(hown:w'.ownsRow base r'.e r'.size r'.v r'.n r'.xs)
 (hat:∀g,r'.v.ownBlock=some g->r.v.ownBlock=some g\/g=w.heap.size):ah w' base (upd P i r'):=by
 refine h.put hown (fun j a hj ha=>(h.own j a ha).kept hg ?_) (fun j a hj ha g h1 h2=> ?_)
 ·cases e:a.v.ownBlock with
  |none=>exact .inl rfl
  |some g=>exact .inr fun e'=>h.apart j i a r hj ha hi g e e'.symm
 ·rcases hat g h2 with e|e
  ·exact h.apart j i a r hj ha hi g h1 e
  ·have:=(h.lt ha h1).2;omega
theorem ah.store(h:ah w base P){i:ι}{g n cap e size:Nat}{xs:List Value}(hi:P i=some ⟨.slice (some ⟨g,0,none⟩) n cap,e,size,n,xs⟩)(j:Nat)(u:Value):
 ah (w.setCell ⟨g,j,none⟩ u) base (upd P i ⟨.slice (some ⟨g,0,none⟩) n cap,e,size,n,xs.set j u⟩):=by
 obtain⟨h1,h2⟩:=(h.own i _ hi).stored j u;exact h.turn (r':=⟨.slice (some ⟨g,0,none⟩) n cap,e,size,n,xs.set j u⟩) hi h2 h1 fun g' hg'=> .inl hg'
omit [DecidableEq ι] in
theorem ah.cell(h:ah w base P){i:ι}{g n cap e size:Nat}{xs:List Value}(hi:P i=some ⟨.slice (some ⟨g,0,none⟩) n cap,e,size,n,xs⟩)(j:Nat)(hj:j<n*size):
 w.cell? ⟨g,j,none⟩=xs[j]?/\w.frozen? ⟨g,j,none⟩=false:=
 ⟨(h.own i _ hi).cellAt j hj,(h.own i _ hi).frozenAt j⟩
omit [DecidableEq ι] in
theorem ah.form(h:ah w base P){i:ι}{r:Row}(hi:P i=some r)(hn:0<r.n):∃g cap,r.v= .slice (some ⟨g,0,none⟩) r.n cap/\base<=g/\g<w.heap.size:=(h.own i r hi).form hn
omit [DecidableEq ι] in
theorem ah.slice(h:ah w base P){i:ι}{r:Row}(hi:P i=some r):∃a c,r.v= .slice a r.n c:=bK (h.own i r hi)
end
theorem sM{P:Program}{id:Nat}{Q:Exit->Act->World->Prop}{a:Act}{w:World}{l:List Oper}(n:Nat)(hm:P.follows .mixedOrders=true)(hB:Region.lexTailB .any l.toArray n=true)
 (h:wpStill P l.toArray w.drew (fun a'=>wpList P l.toArray Q (l.drop n) a' w.drew) (l.take n) a):(Code.region id l.toArray true).wp P Q a w:=wp_region_still_tail n hm hB h
structure Kept(K:Nat->Prop)(w w':World):Prop where
 os:w'.os=w.os
 tape:w'.tape=w.tape
 output:w'.output=w.output
 size:w.heap.size<=w'.heap.size
 block:∀k,k<w.heap.size->¬K k->w'.heap[k]?=w.heap[k]?
section
variable{K:Nat->Prop}{a w w':World}
theorem Kept.refl(K:Nat->Prop)(w:World):Kept K w w:=⟨rfl,rfl,rfl,Nat.le_refl _,fun _ _ _=>rfl⟩
theorem Kept.trans{b c:World}(h:Kept K a b)(k:Kept K b c):Kept K a c:=
 ⟨k.os.trans h.os,k.tape.trans h.tape,k.output.trans h.output,Nat.le_trans h.size k.size,fun i hi hK=>(k.block i (Nat.lt_of_lt_of_le hi h.size) hK).trans (h.block i hi hK)⟩
theorem Kept.drew(h:Kept K a w):Kept K a w.drew:=⟨h.os,h.tape,h.output,h.size,h.block⟩
theorem Kept.bP(h:Below w.heap.size w w'):Kept K w w':=⟨h.os,h.tape,h.output,h.size,fun k hk _=>h.block k hk⟩
theorem Kept.alloc(h:Kept K a w)(o:Obj):Kept K a (w.alloc o):=h.trans (Kept.bP ((Below.refl _ _).alloc (Nat.le_refl _) o))
theorem Kept.setCell(h:Kept K a w){p:Addr}(hp:K p.block)(u:Value):Kept K a (w.setCell p u):=
 h.trans ⟨rfl,rfl,rfl,by simp[World.setCell],fun k _ hK=>Below.heap_setCell _ _ _ _ (fun e=>hK (e▸hp))⟩
theorem Kept.below(h:Kept K a w){B:Nat}(hB:∀b,K b->B<=b)(hs:B<=a.heap.size):Below B a w:=
 ⟨h.os,h.tape,h.output,h.size,fun k hk=>h.block k (by omega) (fun e=>by have:=hB k e;omega)⟩
theorem Kept.cell(h:Kept K w w'){p:Addr}{v:Value}(hp:¬K p.block)(hc:w.cell? p=some v):w'.cell? p=some v:=
 (World.cell?_of_block (w:=w) (h.block p.block (World.block_lt_of_cell? w _ hc) hp)).trans hc
theorem Kept.frozen(h:Kept K w w'){p:Addr}(hp:¬K p.block)(hs:p.block<w.heap.size):w'.frozen? p=w.frozen? p:=
 World.frozen?_of_block (w:=w) (h.block p.block hs hp)
end
def aK{α:Type}(n:Nat)(f:Nat->α->α)(x:α):α:=
 match n with
 |0=>x
 |k+1=>f k (aK k f x)
theorem mR{α:Type}(P:Nat->α->Prop){n:Nat}{f:Nat->α->α}{x:α}(h0:P 0 x)(hs:∀i,i<n->∀y,P i y->P (i+1) (f i y)):P n (aK n f x):=by
 induction n with
 |zero=>exact h0
 |succ n ih=>exact hs n (Nat.lt_succ_self n) _ (ih fun i hi=>hs i (Nat.lt_succ_of_lt hi))
structure dw(ι:Type) where
 V:ι->Value
 dom:ι->Option Nat
section
variable{ι:Type}
def dw.P(c:dw ι)(X:ι->List Bool)(i:ι):Option Row:=(c.dom i).map fun n=>⟨c.V i,4,1,n,(X i).map Value.bool⟩
def dw.K(c:dw ι)(b:Nat):Prop:=∃i n,c.dom i=some n/\(c.V i).ownBlock=some b
def bit(X:ι->List Bool)(i:ι)(m:Nat):Bool:=(X i).getD m false
def aU[DecidableEq ι](X:ι->List Bool)(i:ι)(m:Nat)(v:Bool):ι->List Bool:=fun j=>if j=i then (X i).set m v else X j
def Bt(w:World)(B:Nat)(c:dw ι)(X:ι->List Bool):Prop:=ah w B (c.P X)
variable{w:World}{B:Nat}{c:dw ι}{X:ι->List Bool}{i:ι}{n:Nat}
theorem dw.yC(hd:c.dom i=some n):c.P X i=some ⟨c.V i,4,1,n,(X i).map Value.bool⟩:=by simp[dw.P,hd]
theorem Bt.own(h:Bt w B c X)(hd:c.dom i=some n):w.ownsRow B 4 1 (c.V i) n ((X i).map Value.bool):=ah.own h i _ (dw.yC hd)
theorem Bt.len(h:Bt w B c X)(hd:c.dom i=some n):(X i).length=n:=by simpa using (h.own hd).1
theorem Bt.slice(h:Bt w B c X)(hd:c.dom i=some n):∃a cap,c.V i= .slice a n cap:=bK (h.own hd)
theorem Bt.form(h:Bt w B c X)(hd:c.dom i=some n)(hn:0<n):∃g cap,c.V i= .slice (some ⟨g,0,none⟩) n cap/\B<=g/\g<w.heap.size:=(h.own hd).form hn
theorem Bt.cell(h:Bt w B c X)(hd:c.dom i=some n){g cap m:Nat}(hv:c.V i= .slice (some ⟨g,0,none⟩) n cap)(hm:m<n):
 w.cell? ⟨g,m,none⟩=some (.bool (bit X i m))/\w.frozen? ⟨g,m,none⟩=false:=by
 have hl:=h.len hd;have ho:=h.own hd;rw[hv]at ho;refine⟨?_,ho.frozenAt m⟩;rw[ho.cellAt m (by omega)];simp[bit,List.getD,show m<(X i).length by omega]
theorem Bt.alloc(h:Bt w B c X)(o:Obj):Bt (w.alloc o) B c X:=ah.alloc h o
theorem Bt.drew(h:Bt w B c X):Bt w.drew B c X:=ah.drew h
theorem Bt.below(h:Bt w B c X){w':World}(hb:Below w.heap.size w w'):Bt w' B c X:=ah.below h hb (Nat.le_refl _)
theorem Bt.ge(h:Bt w B c X){b:Nat}(hK:c.K b):B<=b:=by
 obtain⟨i,n,hd,hb⟩:=hK;exact((h.own hd).lt b hb).1
theorem Bt.lt(h:Bt w B c X){b:Nat}(hK:c.K b):b<w.heap.size:=by
 obtain⟨i,n,hd,hb⟩:=hK;exact((h.own hd).lt b hb).2
theorem Bt.gU(h:Bt w B c X){b:Nat}(hb:w.heap.size<=b):¬c.K b:=fun hK=>by have:=h.lt hK;omega
theorem dw.Jw(hd:c.dom i=some n){g cap:Nat}(hv:c.V i= .slice (some ⟨g,0,none⟩) n cap):c.K g:=⟨i,n,hd,by rw[hv];rfl⟩
theorem Bt.apart(h:Bt w B c X){j:ι}{k:Nat}(hij:i≠j)(hd:c.dom i=some n)(hd':c.dom j=some k){g g' cap cap':Nat}(hv:c.V i= .slice (some ⟨g,0,none⟩) n cap)(hv':c.V j= .slice (some ⟨g',0,none⟩) k cap'):g≠g':=fun e=>
 ah.apart h i j _ _ hij (dw.yC hd) (dw.yC hd') g (by rw[hv];rfl) (by rw[hv',e];rfl)
variable[DecidableEq ι]
theorem Bt.set(h:Bt w B c X)(hd:c.dom i=some n){g cap:Nat}(hv:c.V i= .slice (some ⟨g,0,none⟩) n cap)(m:Nat)(v:Bool):Bt (w.setCell ⟨g,m,none⟩ (.bool v)) B c (aU X i m v):=by
 have:=ah.store h (i:=i) (g:=g) (n:=n) (cap:=cap) (e:=4) (size:=1) (xs:=(X i).map Value.bool) (by rw[dw.yC hd,hv]) m (.bool v)
 have e:upd (c.P X) i ⟨.slice (some ⟨g,0,none⟩) n cap,4,1,n,((X i).map Value.bool).set m (.bool v)⟩=c.P (aU X i m v):=by
  funext j
  by_cases hj:j=i
  ·subst hj
   simp[upd,dw.P,hd,aU,hv,List.map_set]
  ·simp[upd,dw.P,aU,hj]
 show ah _ _ _
 rwa [e]at this
omit [DecidableEq ι] in
theorem Jy{m:Nat}(h:bit X i m=true):m<(X i).length:=by
 unfold bit at h;by_cases hm:m<(X i).length
 ·exact hm
 ·simp[List.getD,List.getElem?_eq_none (show (X i).length<=m by omega)]at h
theorem gV{j:ι}{m q:Nat}{v:Bool}(hm:m<(X i).length):bit (aU X i m v) j q=if j=i/\q=m then v else bit X j q:=by
 unfold bit aU;by_cases hj:j=i
 ·subst hj
  simp only[if_true,true_and];by_cases hq:q=m
  ·subst hq;simp[List.getD,hm]
  ·rw[if_neg hq];simp[List.getD,List.getElem?_set_ne (fun h=>hq h.symm)]
 ·simp[hj]
theorem qN{j:ι}{m:Nat}{v:Bool}:(aU X i m v j).length=(X j).length:=by
 unfold aU;by_cases hj:j=i
 ·subst hj;simp
 ·simp[hj]
end
end Go.Proofs.YtblkkhfdeaaidaaGreatDoor
namespace Go.Proofs.YtblkkhfdeaaidaaGreatDoor
section
variable{P:Program}{ops:Array Oper}{Q:Exit->Act->World->Prop}{md:Region.Mode}{S:World->Prop}
def jF(P:Program)(md:Region.Mode)(ops:Array Oper)(Q:Exit->Act->World->Prop)(S:World->Prop)(n:Nat):Nat->Array Bool->Act->World->Prop
 |0,listed,a,w=>Region.ready md ops listed=[]/\Q .normal a w
 |fuel+1,listed,a,w=>
  (Region.ready md ops listed=[]->Q .normal a w)/\
  ∀i∈Region.ready md ops listed,wpOp P ops Q i (fun a' w'=>(i<n->S w')/\jF P md ops Q S n fuel (listed.setIfInBounds i true) a' w') a w
theorem Cg{n:Nat}:∀(fuel:Nat) (listed:Array Bool) (a:Act) (w:World),jF P md ops Q S n fuel listed a w->wpAny P md ops Q fuel listed a w
 |0,_,_,_,h=>h
 |fuel+1,_,_,_,h=>⟨h.1,fun i hi=>wpOp_mono (fun a' w' h'=>Cg fuel _ a' w' h'.2) (h.2 i hi)⟩
theorem Ch{n i:Nat}{oi:Oper}{v:Value}(hi:ops[i]?=some oi)(hsel:∀(j:Nat) (o:Oper) cs b,ops[j]?=some o->o.op≠ .select cs b)
 (hQ:∀c a w,Q (.panic c) (a.put oi.dst v) w->Q (.panic c) a w) (hs:Region.sinkB md ops n=true) (hc:Region.chainB md ops n=true) (hn:n<ops.size) (hin:i<n):
 ∀(fuel:Nat) (listed:Array Bool) (a:Act) (w:World),HeadInv md ops n listed->
  (∀j oj,ops[j]?=some oj->j≠i->listed.getD j true=false->(∀e∈oj.after,Region.binds md e=true->e.on≠i)->oi.apart ops oj=true)->
  i∈Region.ready md ops listed->YieldsIf P ops S oi v a->S w->
  jF P md ops Q S n fuel (listed.setIfInBounds i true) (a.put oi.dst v) w->jF P md ops Q S n (fuel+1) listed a w:=by
 intro fuel
 induction fuel with
 |zero=>
  intro listed a w _ _ hr hy hS H;refine⟨fun h=>(by rw[h]at hr;cases hr),fun j hj=> ?_⟩;by_cases hji:j=i
  ·subst hji;exact hy.wpOp hi hS ⟨fun _=>hS,H⟩
  ·have:=ready_mono hj hji
   rw[H.1]at this;cases this
 |succ fuel ih=>
  intro listed a w inv hfree hr hy hS H;have hun:=(mem_ready.1 hr).1;refine⟨fun h=>(by rw[h]at hr;cases hr),fun j hj=> ?_⟩;by_cases hji:j=i
  ·subst hji;exact hy.wpOp hi hS ⟨fun _=>hS,H⟩
  ·have hjn:j<n:=by
    rcases Nat.lt_or_ge j n with h|h
    ·exact h
    ·exact absurd hj (tail_waits hs hc hn inv _ i rfl hin hun j h)
   have h1:=H.2 j (ready_mono hj hji);obtain⟨hjun,oj,hoj,hall⟩:=mem_ready.1 hj
   have hnot:∀e∈oj.after,Region.binds md e=true->e.on≠i:=fun e he hb heq=>by
    have h1:=hall e he hb;rw[heq,getD_both hun]at h1;cases h1
   have h2:=wpOp_putIf hoj (hfree j oj hoj hji hjun hnot) (fun cs b=>hsel i oi cs b hi) (fun cs b=>hsel j oj cs b hoj) hQ hy h1
   have hfree':∀k ok,ops[k]?=some ok->k≠i->(listed.setIfInBounds j true).getD k true=false->
    (∀e∈ok.after,Region.binds md e=true->e.on≠i)->oi.apart ops ok=true:=fun k ok hk hki hun hno=>by
    refine hfree k ok hk hki ?_ hno;by_cases hjk:j=k
    ·subst hjk;exact hjun
    ·rw[getD_set_ne true hjk]at hun;exact hun
   refine wpOp_mono (fun a' w' h3=>⟨h3.2.1,ih (listed.setIfInBounds j true) a' w' (inv.set hj hjn) hfree' (ready_mono hr (Ne.symm hji)) h3.1 (h3.2.1 hjn) ?_⟩) h2;rw[Array.setIfInBounds_comm _ _ hji];exact h3.2.2
def sP(P:Program)(ops:Array Oper)(S:World->Prop)(K:Act->Prop):List Oper->Act->Prop
 | [],a=>K a
 |o::l,a=> ∃v,YieldsIf P ops S o v a/\sP P ops S K l (a.put o.dst v)
theorem sP.cons{K:Act->Prop}{o:Oper}{l:List Oper}{a:Act}{v:Value}(hw:Region.wanted o (yielded ops a.tmps)=true)(hy:∀w,S w->(execOp a.eval o).run P w= .ok (.value v) w)(h:sP P ops S K l (a.put o.dst v)):sP P ops S K (o::l) a:=
 ⟨v,.inl ⟨hw,hy⟩,h⟩
def uH(P:Program)(ops:Array Oper)(Q:Exit->Act->World->Prop)(S:World->Prop)(n:Nat):Nat->List Oper->Act->World->Prop
 |_,[],a,w=>Q .normal a w
 |k,o::l,a,w=> ∀K:Act->World->Prop,Shut (∀a w,(k<n->S w)->uH P ops Q S n (k+1) l a w->K a w)->if Region.wanted o (yielded ops a.tmps)=true then Oper.wp P o a w K Q else K (a.put o.dst undef) w
theorem N8{n:Nat}:∀(l:List Oper) (k:Nat) (listed:Array Bool) (a:Act) (w:World),(∀j,l[j]?=ops[k+j]?)->
 Region.seqB md ops l.length k listed=true->uH P ops Q S n k l a w->jF P md ops Q S n l.length listed a w
 | [],_,_,_,_,_,hB,h=>⟨by simpa [Region.seqB] using hB,h⟩
 |o::l,k,listed,a,w,hl,hB,h=>by
  have h0:ops[k]?=some o:=by simpa using (hl 0).symm
  simp only[List.length_cons,Region.seqB,Bool.and_eq_true,decide_eq_true_eq]at hB;refine⟨fun h1=>(by rw[hB.1]at h1;cases h1),fun i hi=> ?_⟩;rw[hB.1]at hi;have hik:i=k:=by simpa using hi
  subst hik
  have h1:=h (fun a' w'=>(i<n->S w')/\jF P md ops Q S n l.length (listed.setIfInBounds i true) a' w')
   (fun a' w' hS hT=>⟨hS,N8 l (i+1) _ a' w' (fun j=>by have:=hl (j+1);simpa [Nat.add_assoc,Nat.add_comm 1 j] using this) hB.2 hT⟩)
  unfold wpOp;simp only[h0];split
  ·rename_i hw
   rw[if_pos hw]at h1;exact .inl h1
  ·rename_i hw
   rw[if_neg hw]at h1;exact h1
theorem N9{n m g:Nat}(hsel:Region.noSelect ops=true)(hQ:∀c a d v w,Q (.panic c) (a.put d v) w->Q (.panic c) a w)(hs:Region.sinkB md ops n=true)(hc:Region.chainB md ops n=true)(hn:n<ops.size)(hmn:m<=n){w:World}(hS:S w):
 ∀(l:List Oper) (k:Nat) (listed:Array Bool) (a:Act),(∀j,j<l.length->l[j]?=ops[k+j]?)->k+l.length=m->HeadInv md ops n listed->
 Region.lexHead md ops g l.length k listed=true->sP P ops S (fun a'=> ∀listed',Region.seqB md ops g m listed'=true->jF P md ops Q S n g listed' a' w) l a->
 jF P md ops Q S n (l.length+g) listed a w
 | [],k,listed,a,_,hk,_,hB,h=>by
  have:k=m:=by simpa using hk
  subst this;simp only[List.length_nil,Nat.zero_add];exact h listed (by simpa [Region.lexHead] using hB)
 |o::l,k,listed,a,hl,hk,inv,hB,h=>by
  have h0:ops[k]?=some o:=by simpa using (hl 0 (by simp)).symm
  simp only[List.length_cons,Region.lexHead,Bool.and_eq_true]at hB;obtain⟨⟨hr,hf⟩,hB'⟩:=hB;have hkn:k<n:=by simp only[List.length_cons]at hk;omega
  have hr':k∈Region.ready md ops listed:=by simpa using hr
  obtain⟨v,hy,hK⟩:=h;rw[show (o::l).length+g=(l.length+g)+1 by simp only[List.length_cons];omega]
  exact Ch h0 (Region.noSelect_spec hsel) (fun c a w=>hQ c a _ _ w) hs hc hn hkn _ listed a w inv (Region.free_spec h0 hf) hr' hy hS
   (N9 hsel hQ hs hc hn hmn hS l (k+1) _ _ (fun j hj=>by have:=hl (j+1) (by simp;omega);simpa [Nat.add_assoc,Nat.add_comm 1 j] using this) (by simp only[List.length_cons]at hk;omega) (inv.set hr' hkn) hB' hK)
def Oa(ops:Array Oper)(m n:Nat):Bool:=
 Region.noSelect ops&&decide (m<=n)&&decide (n<ops.size)&&Region.sinkB .any ops n&&Region.chainB .any ops n&&Region.lexHead .any ops (ops.size-m) m 0 (Array.replicate ops.size false)
theorem Xl{id:Nat}{a:Act}{w:World}{l:List Oper}(m n:Nat)(S:World->Prop)(hm:P.follows .mixedOrders=true)(hB:Oa l.toArray m n=true)(hS:S w.drew)
 (h:sP P l.toArray S (fun a'=>uH P l.toArray (NoPanic Q) S n m (l.drop m) a' w.drew) (l.take m) a):(Code.region id l.toArray true).wp P Q a w:=by
 simp only[Oa,Bool.and_eq_true,decide_eq_true_eq]at hB;obtain⟨⟨⟨⟨⟨hsel,hmn⟩,hn⟩,hs⟩,hc⟩,hlex⟩:=hB;have hn':n<l.length:=by simpa using hn
 have htl:(l.take m).length=m:=by simp;omega
 have hdl:(l.drop m).length=l.toArray.size-m:=by simp
 have inv0:HeadInv .any l.toArray n (Array.replicate l.toArray.size false):=
  ⟨by simp,fun j oj _ hl=>(by rw[getD_replicate_false]at hl;cases hl),fun t _ ht=>Go.getD_in (by simpa using ht) (getD_replicate_false _ _)⟩
 have conv:∀(l':List Oper) (b:Act),sP P l.toArray S (fun a'=>uH P l.toArray (NoPanic Q) S n m (l.drop m) a' w.drew) l' b->
  sP P l.toArray S (fun a'=> ∀listed',Region.seqB .any l.toArray (l.toArray.size-m) m listed'=true->jF P .any l.toArray (NoPanic Q) S n (l.toArray.size-m) listed' a' w.drew) l' b:=by
  intro l'
  induction l' with
  |nil=>
   intro b hb listed' hq;have:=N8 (md:= .any) (n:=n) (l.drop m) m listed' b w.drew (fun j=>by simp[List.getElem?_drop]) (by rw[hdl];exact hq) hb
   rwa [hdl]at this
  |cons o l' ih=>
   rintro b ⟨v,hy,hK⟩;exact⟨v,hy,ih _ hK⟩
 refine wp_region_noPanic (wp_region_any hm (Cg (S:=S) (n:=n) _ _ _ _ ?_))
 have:=N9 (md:= .any) (g:=l.toArray.size-m) (Q:=NoPanic Q) hsel (fun _ _ _ _ _ h=>h) hs hc hn hmn hS (l.take m) 0 _ a (fun j hj=>by
  have hj':j<m:=by rw[htl]at hj;exact hj
  simp[hj']) (by simpa using htl) inv0 (by rw[htl];exact hlex) (conv _ _ h)
 rw[htl,show m+(l.toArray.size-m)=l.toArray.size by simp;omega]at this;exact this
end
section
variable{P:Program}{ops:Array Oper}{Q:Exit->Act->World->Prop}{md:Region.Mode}{S:World->Prop}
def Ci(md:Region.Mode)(ops:Array Oper):List Nat->Array Bool->Bool
 | [],listed=>(Region.ready md ops listed).isEmpty
 |k::ks,listed=>decide (Region.ready md ops listed=[k])&&Ci md ops ks (listed.setIfInBounds k true)
def Cj(md:Region.Mode)(ops:Array Oper)(ts:List Nat):List Nat->Array Bool->Bool
 | [],listed=>Ci md ops ts listed
 |k::ks,listed=>(Region.ready md ops listed).contains k&&Region.free md ops listed k&&Cj md ops ts ks (listed.setIfInBounds k true)
def aO(P:Program)(ops:Array Oper)(S:World->Prop)(K:Act->Prop):List Nat->Act->Prop
 | [],a=>K a
 |i::l,a=> ∃o v,ops[i]?=some o/\YieldsIf P ops S o v a/\aO P ops S K l (a.put o.dst v)
theorem aO.cons{K:Act->Prop}{i:Nat}{o:Oper}{l:List Nat}{a:Act}{v:Value}(ho:ops[i]?=some o)(hw:Region.wanted o (yielded ops a.tmps)=true)(hy:∀w,S w->(execOp a.eval o).run P w= .ok (.value v) w)(h:aO P ops S K l (a.put o.dst v)):aO P ops S K (i::l) a:=
 ⟨o,v,ho,.inl ⟨hw,hy⟩,h⟩
def dL(P:Program)(ops:Array Oper)(Q:Exit->Act->World->Prop)(S:World->Prop)(n:Nat):List Nat->Act->World->Prop
 | [],a,w=>Q .normal a w
 |k::l,a,w=> ∃o,ops[k]?=some o/\∀K:Act->World->Prop,Shut (∀a w,(k<n->S w)->dL P ops Q S n l a w->K a w)->if Region.wanted o (yielded ops a.tmps)=true then Oper.wp P o a w K Q else K (a.put o.dst undef) w
theorem dL.cons{n k:Nat}{o:Oper}{l:List Nat}{a:Act}{w:World}(ho:ops[k]?=some o)(h:∀K:Act->World->Prop,Shut (∀a w,(k<n->S w)->dL P ops Q S n l a w->K a w)->if Region.wanted o (yielded ops a.tmps)=true then Oper.wp P o a w K Q else K (a.put o.dst undef) w):dL P ops Q S n (k::l) a w:=⟨o,ho,h⟩
theorem Ob{n:Nat}:∀(l:List Nat) (listed:Array Bool) (a:Act) (w:World),Ci md ops l listed=true->dL P ops Q S n l a w->jF P md ops Q S n l.length listed a w
 | [],_,_,_,hB,h=>⟨by simpa [Ci] using hB,h⟩
 |k::l,listed,a,w,hB,h=>by
  simp only[Ci,Bool.and_eq_true,decide_eq_true_eq]at hB;obtain⟨o,h0,h⟩:=h;refine⟨fun h1=>(by rw[hB.1]at h1;cases h1),fun i hi=> ?_⟩;rw[hB.1]at hi;have hik:i=k:=by simpa using hi
  subst hik
  have h1:=h (fun a' w'=>(i<n->S w')/\jF P md ops Q S n l.length (listed.setIfInBounds i true) a' w')
   (fun a' w' hS hT=>⟨hS,Ob l _ a' w' hB.2 hT⟩)
  unfold wpOp;simp only[h0];split
  ·rename_i hw
   rw[if_pos hw]at h1;exact .inl h1
  ·rename_i hw
   rw[if_neg hw]at h1;exact h1
theorem Oc{n:Nat}{ts:List Nat}(hsel:Region.noSelect ops=true)(hQ:∀c a d v w,Q (.panic c) (a.put d v) w->Q (.panic c) a w)(hs:Region.sinkB md ops n=true)(hc:Region.chainB md ops n=true)(hn:n<ops.size){w:World}(hS:S w):
 ∀(l:List Nat) (listed:Array Bool) (a:Act),(∀i∈l,i<n)->HeadInv md ops n listed->Cj md ops ts l listed=true->aO P ops S (fun a'=>dL P ops Q S n ts a' w) l a->
 jF P md ops Q S n (l.length+ts.length) listed a w
 | [],listed,a,_,_,hB,h=>by
  simp only[List.length_nil,Nat.zero_add];exact Ob ts listed a w (by simpa [Cj] using hB) h
 |k::l,listed,a,hl,inv,hB,h=>by
  simp only[Cj,Bool.and_eq_true]at hB;obtain⟨⟨hr,hf⟩,hB'⟩:=hB;have hkn:=hl k (by simp);have hr':k∈Region.ready md ops listed:=by simpa using hr
  obtain⟨o,v,h0,hy,hK⟩:=h;rw[show (k::l).length+ts.length=(l.length+ts.length)+1 by simp only[List.length_cons];omega]
  exact Ch h0 (Region.noSelect_spec hsel) (fun c a w=>hQ c a _ _ w) hs hc hn hkn _ listed a w inv (Region.free_spec h0 hf) hr' hy hS
   (Oc hsel hQ hs hc hn hS l _ _ (fun i hi=>hl i (List.mem_cons_of_mem _ hi)) (inv.set hr' hkn) hB' hK)
def Od(ops:Array Oper)(hs ts:List Nat)(n:Nat):Bool:=
 Region.noSelect ops&&decide (n<ops.size)&&Region.sinkB .any ops n&&Region.chainB .any ops n&&(hs.all fun i=>decide (i<n))&&decide (hs.length+ts.length=ops.size)&&Cj .any ops ts hs (Array.replicate ops.size false)
theorem Fu{id:Nat}{a:Act}{w:World}(hs ts:List Nat)(n:Nat)(S:World->Prop)(hm:P.follows .mixedOrders=true)(hB:Od ops hs ts n=true)(hS:S w.drew)
 (h:aO P ops S (fun a'=>dL P ops (NoPanic Q) S n ts a' w.drew) hs a):(Code.region id ops true).wp P Q a w:=by
 simp only[Od,Bool.and_eq_true,decide_eq_true_eq,List.all_eq_true]at hB;obtain⟨⟨⟨⟨⟨⟨hsel,hn⟩,hsk⟩,hc⟩,hl⟩,hlen⟩,hlex⟩:=hB
 have inv0:HeadInv .any ops n (Array.replicate ops.size false):=
  ⟨by simp,fun j oj _ hl=>(by rw[getD_replicate_false]at hl;cases hl),fun t _ ht=>Go.getD_in (by simpa using ht) (getD_replicate_false _ _)⟩
 refine wp_region_noPanic (wp_region_any hm (Cg (S:=S) (n:=n) _ _ _ _ ?_));have:=Oc (md:= .any) (Q:=NoPanic Q) hsel (fun _ _ _ _ _ h=>h) hsk hc hn hS hs _ a hl inv0 hlex h;rw[hlen]at this;exact this
end
end Go.Proofs.YtblkkhfdeaaidaaGreatDoor
