import Derived.Test.YthbifaoaiggooaaGreatDoorq2
import Derived.Deep.RegionLaw
import Derived.Deep.RegionWith
import Derived.Deep.DrawnRows
import Derived.Lib.MinMax
import Derived.Deep.LoopGhost
set_option maxHeartbeats 3200000
set_option maxRecDepth 100000
namespace Go.Proofs.YthbifaoaiggooaaGreatDoor
open Go.RowKit
theorem iD{T N:Nat}{R:List Ru}(h:aJ T N R=true):T<=8/\1<=N/\N<=12/\R.length<=40/\
 ∀i,i<R.length->0<=(R.getD i (0,[])).1/\(R.getD i (0,[])).1<(N:Int)/\(R.getD i (0,[])).2.length<=8/\
  ∀s∈(R.getD i (0,[])).2,0<=s.2/\s.2<if s.1 then (T:Int) else (N:Int):=by
 simp only[aJ,DR,bG,bX]at h;obtain⟨⟨h1,h2,h3,h4,h5⟩,h6⟩:=h;refine⟨by omega,by omega,by omega,h5,λi hi=> ?_⟩;have h7:=qO.1 h6 (R.getD i (0,[])) (by simp[List.getD,hi]);simp only[lC,bG,bX]at h7;refine⟨h7.1.1,h7.1.2.1,h7.1.2.2,λs hs=> ?_⟩;have h8:=qO.1 h7.2 s hs;simpa [oC] using h8
structure bW where
 tx:List UInt8
 T:Nat
 N:Nat
 R:List Ru
structure bR(w:World)(pb B:Nat)(rv:Value)(p:bW):Prop where
 at_:w.heap[pb]?=some (.cells #[.int .i64 p.T,.int .i64 p.N,rv,.string ⟨p.tx.toArray⟩] 44 (0,0))
 lt:pb<B
 rules:lD w B rv p.R
 good:p.N=0\/aJ p.T p.N p.R=true
def Bh(w:World)(B:Nat)(rv:Value)(p:bW)(B':Nat)(rv':Value)(p':bW):Prop:=(B'=B/\rv'=rv/\p'.R=p.R)\/w.heap.size<=B'
section
variable{w w':World}{pb B G:Nat}{rv:Value}{p:bW}
theorem bR.below(h:bR w pb B rv p):pb<w.heap.size:=(dx.1 h.at_).1
theorem bR.later(h:bR w pb B rv p)(hb:Below w.heap.size w w'):bR w' pb B rv p:=
 ⟨(hb.block _ h.below).trans h.at_,h.lt,h.rules.on (ah _) hb.size λk _ hk=>hb.block k hk,h.good⟩
theorem bR.text(h:bR w pb B rv p)(s:List UInt8):bR (w.setCell ⟨pb,3,none⟩ (.string ⟨s.toArray⟩)) pb B rv { p with tx:=s }:=by
 have hb:But pb w (w.setCell ⟨pb,3,none⟩ (.string ⟨s.toArray⟩)):=But.set _ _ _;have hlt:=h.lt;exact⟨Lib.heap_setCell_same h.at_ _,h.lt,h.rules.on (ah _) hb.size λk h1 h2=>hb.block k h2 (by omega),h.good⟩
theorem bR.Tp(h:bR w pb B rv p){T N:Nat}{rv':Value}{R:List Ru}{B':Nat}(hR:lD w B' rv' R)(hB:pb<B')(hm:aJ T N R=true):bR (((w.setCell ⟨pb,0,none⟩ (.int .i64 T)).setCell ⟨pb,1,none⟩ (.int .i64 N)).setCell ⟨pb,2,none⟩ rv') pb B' rv' ⟨p.tx,T,N,R⟩:=by
 have hb:But pb w (((w.setCell ⟨pb,0,none⟩ (.int .i64 T)).setCell ⟨pb,1,none⟩ (.int .i64 N)).setCell ⟨pb,2,none⟩ rv'):=((But.set _ _ _).trans (But.set _ _ _)).trans (But.set _ _ _);exact⟨Lib.heap_setCell_same (i:=2) (Lib.heap_setCell_same (i:=1) (Lib.heap_setCell_same (i:=0) h.at_ _) _) _,hB,hR.on (ah _) hb.size λk h1 h2=>hb.block k h2 (by omega),.inr hm⟩
theorem bR.cells(h:bR w pb B rv p):w.cell? ⟨pb,0,none⟩=some (.int .i64 p.T)/\w.cell? ⟨pb,1,none⟩=some (.int .i64 p.N)/\w.cell? ⟨pb,2,none⟩=some rv/\w.cell? ⟨pb,3,none⟩=some (.string ⟨p.tx.toArray⟩):=
 ⟨ay h.at_ rfl,ay h.at_ rfl,ay h.at_ rfl,ay h.at_ rfl⟩
theorem dR.but(h:dR G w)(hb:But pb w w')(hG:G<=pb)(hG2:pb<w.heap.size):dR G w':=h.on λk hk=>hb.block k (by omega) (by omega)
theorem NT(w:World)(x:Int):aY (w.alloc (.cells #[.int .i64 x] 3)) (w.alloc (.cells #[.int .i64 x] 3)).heap.size (.slice (some ⟨w.heap.size,0,none⟩) 1 1) [x]:=by
 refine⟨⟨_,_,rfl⟩,λp hp=> ?_⟩;have:p=0:=by simpa using hp
 subst this;exact⟨w.heap.size,0,1,rfl,by simp,ay (heap_alloc_new w _) rfl⟩
theorem Am{u:List UInt8}{x:Int}(hu:u.length<=1000)(hE:dR G w)(hG:G<=w.heap.size)(hx:eY x):Calls Tryz.prog 65 #[.string ⟨u.toArray⟩,.slice (some ⟨w.heap.size,0,none⟩) 1 1] (w.alloc (.cells #[.int .i64 x] 3)) λe w'=>e= .returned (.string ⟨(bY u [x]).toArray⟩)/\Below w.heap.size w w':=by
 have hb:Below w.heap.size w (w.alloc (.cells #[.int .i64 x] 3)):=(ai _ _).alloc (ah _) _;refine(Ta hu (hE.below hb hG) (aZ hG hb.size) (NT w x) (by simp) (λy hy=>by rw[gG.1 hy];exact hx)).mono λe w' ⟨h1,h2⟩=>⟨h1,hb.trans (h2.mono hb.size)⟩
theorem abw{bs:List UInt8}(h:bR w pb B rv p)(hE:dR G w)(hG:G<=pb)(hl:p.tx.length+bs.length<=4611686018427387904):Calls Tryz.prog 31 #[.pointer (some ⟨pb,0,none⟩),.string ⟨bs.toArray⟩] w λe w'=>e= .returned (.string ⟨(bY [111,107] [((p.tx++(bs++[10])).length:Int)]).toArray⟩)/\bR w' pb B rv { p with tx:=p.tx++(bs++[10]) }/\But pb w w':=by
 obtain⟨T,hT⟩:=af (p.tx++(bs++[10]));have NU:T.length=p.tx.length+bs.length+1:=by rw[<-hT];simp;omega
 obtain⟨y,hy⟩:=af (bs++[10]);have hyl:y.length=bs.length+1:=by rw[<-hy];simp
 have add1:=qY (P:=Tryz.prog) bs [10] (by simp;omega);rw[hy]at add1 hT;have add2:=qY (P:=Tryz.prog) p.tx y (by omega);rw[hT]at add2;obtain⟨-,-,-,c3⟩:=h.cells;have f3:=bO (i:=3) h.at_;obtain⟨W1,hW1⟩:=af (w.setCell ⟨pb,3,none⟩ (.string ⟨T.toArray⟩));have h1:=h.text T;rw[hW1]at h1;have hb1:But pb w W1:=by rw[<-hW1];exact But.set _ _ _
 obtain⟨-,-,-,c31⟩:=h1.cells;have abx:W1.cell? ⟨pb,3,none⟩=some (.string ⟨T.toArray⟩):=c31;have td:=Am (u:=[111,107]) (x:=(T.length:Int)) (by simp) (hE.but hb1 hG h.below) (by have:=h1.below;omega) ⟨by omega,by omega⟩;have HP:Hid (bR W1 pb B rv { p with tx:=T }/\But pb w W1):=⟨h1,hb1⟩;rw[hy,hT];clear h hE hT NU hy hyl h1 hb1 c31
 go_enter Tryz.func31,Tryz.ntmps31
 go_wp2_with
  (go_at_call 65;refine td.mono ?_;rintro e w3 ⟨rfl,h3⟩
   have H3:Hid (Below W1.heap.size W1 w3):=h3
   clear td h3)
 go_ret;exact⟨rfl,HP.out.1.later H3.out,HP.out.2.trans (But.of pb H3.out)⟩
theorem aby(h:bR w pb B rv p):Calls Tryz.prog 32 #[.pointer (some ⟨pb,0,none⟩)] w λe w'=>e= .returned (.string ⟨#[111,107]⟩)/\bR w' pb B rv { p with tx:=[] }/\But pb w w':=by
 obtain⟨-,-,-,c3⟩:=h.cells;have f3:=bO (i:=3) h.at_;have HP:Hid (bR (w.setCell ⟨pb,3,none⟩ (.string ⟨#[]⟩)) pb B rv { p with tx:=[] }/\But pb w (w.setCell ⟨pb,3,none⟩ (.string ⟨#[]⟩))):=⟨h.text [],But.set _ _ _⟩;clear h
 go_enter Tryz.func32,Tryz.ntmps32
 go_wp2_with fail
 go_ret;exact⟨rfl,HP.out⟩
def vG(p:bW):bW:=if uI p.tx=true then ⟨p.tx,(bU p.tx).1.1,(bU p.tx).1.2.1,(bU p.tx).1.2.2⟩ else p
def xC(p:bW):List UInt8:=if uI p.tx=true then bY [111,107] [((bU p.tx).1.2.2.length:Int)] else bY [98,97,100] [((bU p.tx).2.1:Int)]
theorem NV(s:List UInt8):(bU s).2.1<=s.length:=by
 have key:∀(f:Nat) (s:List UInt8) (k T N:Nat) (R:List Ru),(vE f s k T N R).2.1<=k+s.length:=by
  intro f
  induction f with
  |zero=>intro s k T N R;simp[vE]
  |succ f ih=>
   intro s k T N R;rw[vE];split
   ·simp
   ·split
    ·simp
    ·rename_i a r hc
     have hl:=congrArg List.length (SS hc).2;simp only[aS,List.length_cons]at hl;split
     ·split
      ·have:=ih r 1 (oz a) (hdN a) R
       omega
      ·simp
     ·split
      ·have:=ih r (k+1) T N (pK a R)
       omega
      ·simp
 have:=key (s.length+1) s 0 0 0 [];unfold bU;omega
theorem Ka(w:World)(a b c d e:Value):∃q W,w.heap.size=q/\(w.alloc (.cells #[a,b,c] 27)).alloc (.cells #[d,e] 35)=W/\W.heap[q]?=some (.cells #[a,b,c] 27 (0,0))/\W.heap[q+1]?=some (.cells #[d,e] 35 (0,0))/\Below w.heap.size w W:=by
 refine⟨_,_,rfl,rfl,(sJ _ _ _ (by simp)).trans (heap_alloc_new w _),?_,((ai _ _).alloc (ah _) _).alloc (by simp) _⟩;have:=heap_alloc_new (w.alloc (.cells #[a,b,c] 27)) (.cells #[d,e] 35);simpa using this
theorem abz(h:bR w pb B rv p)(hE:dR G w)(hG:G<=pb)(hl:p.tx.length<=4611686018427387904):Calls Tryz.prog 33 #[.pointer (some ⟨pb,0,none⟩)] w λe w'=>e= .returned (.string ⟨(xC p).toArray⟩)/\(∃B' rv',bR w' pb B' rv' (vG p)/\Bh w B rv p B' rv' (vG p))/\But pb w w':=by
 obtain⟨-,-,-,c3⟩:=h.cells;have hpb:=h.below;cases hok:uI p.tx with
 |false=>
  have HO:Hid (xC p=bY [98,97,100] [((bU p.tx).2.1:Int)]/\vG p=p):=by
   refine⟨?_,?_⟩
   ·unfold xC;rw[hok];rfl
   ·unfold vG;rw[hok];rfl
  have hk:=NV p.tx
  have pa:Calls Tryz.prog 8 #[.string ⟨p.tx.toArray⟩] w λe w'=>e= .returned (.tuple #[.agg #[.int .i64 0,.int .i64 0,.slice none 0 0],.agg #[.int .i64 2,.int .i64 ((bU p.tx).2.1:Nat)]])/\Below w.heap.size w w':=by
   cases h5:(bU p.tx).2.2 with
   |false=>exact Tn (w:=w) (by omega) h5
   |true=>exact Tm (w:=w) (by omega) h5 (by unfold uI at hok;rw[h5,wN]at hok;exact hok)
  obtain⟨k,hkk⟩:=af ((bU p.tx).2.1);rw[hkk]at pa hk HO
  have HT:Hid (∀wq,Below w.heap.size w wq->Calls Tryz.prog 65 #[.string ⟨#[98,97,100]⟩,.slice (some ⟨wq.heap.size,0,none⟩) 1 1] (wq.alloc (.cells #[.int .i64 (k:Int)] 3)) λe w'=>e= .returned (.string ⟨(bY [98,97,100] [(k:Int)]).toArray⟩)/\Below wq.heap.size wq w'):=λwq hq=>
   Am (u:=[98,97,100]) (by simp) (hE.below hq (by omega)) (by have:=hq.size;omega) ⟨by omega,by omega⟩
  have HP:Hid (bR w pb B rv p):=h;clear h hE hkk hok
  go_enter Tryz.func33,Tryz.ntmps33
  go_upto_region 2 with
   (go_at_call 8;refine pa.mono ?_;rintro e w2 ⟨rfl,h2⟩
    clear pa)
  obtain⟨q,W3,hq,hW,hx0,hx1,hb⟩:=Ka w2 (.int .i64 0) (.int .i64 0) (.slice none 0 0) (.int .i64 2) (.int .i64 (k:Int));rw[hW];rw[hq];have h3:=h2.trans (hb.mono h2.size);have td:=HT.out _ h3;have H3:Hid (Below w.heap.size w W3):=h3;have u0:=ay (i:=0) hx1 rfl;have u1:=ay (i:=1) hx1 rfl;clear h2 hq hW hx0 hx1 hb h3
  go_wp2_with
   (go_at_call 65;refine td.mono ?_;rintro e w4 ⟨rfl,h4⟩
    have H4:Hid (Below w.heap.size w w4):=H3.out.trans (h4.mono H3.out.size)
    clear td h4)
  go_ret;exact⟨by rw[HO.out.1];rfl,⟨B,rv,by rw[HO.out.2];exact HP.out.later H4.out,.inl ⟨rfl,rfl,by rw[HO.out.2]⟩⟩,But.of pb H4.out⟩
 |true=>
  have HO:Hid (xC p=bY [111,107] [((bU p.tx).1.2.2.length:Int)]/\vG p=⟨p.tx,(bU p.tx).1.1,(bU p.tx).1.2.1,(bU p.tx).1.2.2⟩):=by
   refine⟨?_,?_⟩
   ·unfold xC;rw[hok];rfl
   ·unfold vG;rw[hok];rfl
  have pa:=Tk (w:=w) (s:=p.tx) (by omega) hok
  have hm:aJ ((bU p.tx).1.1:Nat) ((bU p.tx).1.2.1:Nat) (bU p.tx).1.2.2=true:=by
   unfold uI at hok;simp only[bG]at hok;exact hok.2
  obtain⟨⟨⟨T,N,R⟩,k,z⟩,hall⟩:=af (bU p.tx);rw[hall]at pa hm HO;simp only at pa hm HO;have BX:=(iD hm).2.2.2.1;have HM:Hid (aJ (T:Int) (N:Int) R=true):=hm
  have HT:Hid (∀wq,But pb w wq->Calls Tryz.prog 65 #[.string ⟨#[111,107]⟩,.slice (some ⟨wq.heap.size,0,none⟩) 1 1] (wq.alloc (.cells #[.int .i64 (R.length:Int)] 3)) λe w'=>e= .returned (.string ⟨(bY [111,107] [(R.length:Int)]).toArray⟩)/\Below wq.heap.size wq w'):=λwq hq=>
   Am (u:=[111,107]) (by simp) (hE.but hq hG hpb) (by have:=hq.size;omega) ⟨by omega,by omega⟩
  have HP:Hid (bR w pb B rv p):=h;clear h hE hall hok hm
  go_enter Tryz.func33,Tryz.ntmps33
  go_upto_region 2 with
   (go_at_call 8;refine pa.mono ?_;rintro e w2 ⟨rv',rfl,hr2,h2⟩
    obtain⟨ra,rc,aI⟩:=hr2.at.1;subst aI
    clear pa)
  obtain⟨q,W3,hq,hW,hx0,hx1,hb⟩:=Ka w2 (.int .i64 (T:Int)) (.int .i64 (N:Int)) (.slice ra R.length rc) (.int .i64 0) (.int .i64 0);rw[hW];rw[hq];have hP3:=(HP.out.later h2).later hb;have mM:=hP3.Tp (T:=T) (N:=N) (hr2.on (ah _) hb.size λk _ hk=>hb.block k hk) hpb HM.out;obtain⟨W4,dS⟩:=af (((W3.setCell ⟨pb,0,none⟩ (.int .i64 T)).setCell ⟨pb,1,none⟩ (.int .i64 N)).setCell ⟨pb,2,none⟩ (.slice ra R.length rc));rw[dS]at mM
  have hb4:But pb w W4:=by
   rw[<-dS];exact(But.of pb (h2.trans (hb.mono h2.size))).trans (((But.set _ _ _).trans (But.set _ _ _)).trans (But.set _ _ _))
  have td:=HT.out W4 hb4;obtain⟨p0,p1,p2,p3⟩:=hP3.cells;have f0:=bO (i:=0) hP3.at_;have f1:=bO (i:=1) hP3.at_;have f2:=bO (i:=2) hP3.at_;obtain⟨-,-,r2,-⟩:=mM.cells;have u0:=ay (i:=0) hx0 rfl;have u1:=ay (i:=1) hx0 rfl;have u2:=ay (i:=2) hx0 rfl;have v0:=ay (i:=0) hx1 rfl;have HW:Hid (((W3.setCell ⟨pb,0,none⟩ (.int .i64 T)).setCell ⟨pb,1,none⟩ (.int .i64 N)).setCell ⟨pb,2,none⟩ (.slice ra R.length rc)=W4):=dS;have H4:Hid (bR W4 pb w.heap.size (.slice ra R.length rc) ⟨p.tx,T,N,R⟩/\But pb w W4):=⟨mM,hb4⟩;clear hr2 h2 hq hW hx0 hx1 hb hP3 mM hb4 dS
  go_upto_region 5 with fail
  rw[HW.out];clear p0 p1 p2 p3 f0 f1 f2 u0 u1 u2 v0 HW
  go_wp2_with
   (go_at_call 65;refine td.mono ?_;rintro e w5 ⟨rfl,h5⟩
    have H5:Hid (Below W4.heap.size W4 w5):=h5
    clear td h5)
  go_ret;exact⟨by rw[HO.out.1];rfl,⟨w.heap.size,.slice ra R.length rc,by rw[HO.out.2];exact H4.out.1.later H5.out,.inr (ah _)⟩,H4.out.2.trans (But.of pb H5.out)⟩
end
theorem Tryz.infoInt:(Tryz.prog.info? 3).map (λi=>(i.zero,i.size,i.bytes))=some (some (.int .i64 0),1,8):=by kernel_rfl
theorem Tq(n:Nat)(hn:n<=1000000)(u:World):(Instr.makeSlice 39 (.int .i64 n) (.int .i64 n)).run Tryz.prog u= .ok (.slice (some ⟨u.heap.size,0,none⟩) n n) (u.alloc (.cells (madeCells #[.int .i64 0] n) 3)):=by
 obtain⟨i0,hi,hz0,hz1,hz2⟩:=fK Tryz.infoInt;have h:=run_make (P:=Tryz.prog) u 39 3 i0 (.int .i64 0) Tryz.underlying39 hi hz0 .i64 .i64 n n (by omega) (su _) (by rw[hz2];omega) (by omega);simpa [hz1,Value.cells] using h
def fO(w:World)(B g N:Nat)(O:List Int):Prop:=w.ownsRow B 3 1 (.slice (some ⟨g,0,none⟩) N N) N (O.map (Value.int .i64))
section
variable{w w':World}{B g N:Nat}{O:List Int}
theorem fO.len(h:fO w B g N O):O.length=N:=by
 have:(O.map (Value.int .i64)).length=N*1:=h.1;simpa using this
theorem fO.cell(h:fO w B g N O){m:Nat}(hm:m<N):w.cell? ⟨g,m,none⟩=some (.int .i64 (O.getD m 0))/\w.frozen? ⟨g,m,none⟩=false:=by
 have hl:=h.len;refine⟨?_,World.ownsRow.frozenAt h m⟩;rw[World.ownsRow.cellAt h m (by omega)];simp[List.getD,show m<O.length by omega]
theorem fO.set(h:fO w B g N O)(m:Nat)(v:Int):fO (w.setCell ⟨g,m,none⟩ (.int .i64 v)) B g N (O.set m v):=by
 have:=(World.ownsRow.stored h m (.int .i64 v)).1;unfold fO
 rwa [Dv]
theorem fO.below(h:fO w B g N O)(hb:Below w.heap.size w w'):fO w' B g N O:=own_below h hb λk hk=>(World.ownsRow.lt h k hk).2
theorem fO.mono{B':Nat}(h:fO w B g N O)(hB:B'<=B):fO w B' g N O:=lq h hB
theorem fO.list(h:fO w B g N O):aY w w.heap.size (.slice (some ⟨g,0,none⟩) N N) O:=by
 have hl:=h.len;refine⟨⟨_,_,by rw[hl]⟩,λi hi=>⟨g,0,N,by rw[hl],?_,?_⟩⟩
 ·exact aQ w _ (h.cell (m:=i) (by omega)).1
 ·rw[eO]
  exact(h.cell (by omega)).1
end
theorem Tt(w:World){N:Nat}(hN:N<=maxLen):fO (w.alloc (.cells (madeCells #[.int .i64 0] N) 3)) w.heap.size w.heap.size N (List.replicate N 0):=by
 have:=sM (base:=w.heap.size) (e:=3) (size:=1) w (madeCells #[.int .i64 0] N) N (ah _) hN (by simp[size_madeCells]);rw[toList_madeCells_one]at this;unfold fO;simpa using this
end Go.Proofs.YthbifaoaiggooaaGreatDoor
namespace Go.Proofs.YthbifaoaiggooaaGreatDoor
open Classical
def Lv(F:(Int->Prop)->Int->Prop):Nat->Int->Prop
 |0,_=>False
 |k+1,n=>F (Lv F k) n
structure yP(N:Nat)(F:(Int->Prop)->Int->Prop):Prop where
 mono:∀A B:Int->Prop,(∀n,A n->B n)->∀n,F A n->F B n
 bound:∀A n,F A n->0<=n/\n<(N:Int)
theorem F6{N:Nat}{F:(Int->Prop)->Int->Prop}(h:yP N F):∀k n,Lv F k n->Lv F (k+1) n:=by
 intro k
 induction k with
 |zero=>intro n hn;exact hn.elim
 |succ k ih=>intro n hn;exact h.mono _ _ ih n hn
theorem abA{N:Nat}{F:(Int->Prop)->Int->Prop}(h:yP N F){k m:Nat}(hkm:k<=m):∀n,Lv F k n->Lv F m n:=by
 induction hkm with
 |refl=>intro n hn;exact hn
 |step _ ih=>intro n hn;exact F6 h _ n (ih n hn)
noncomputable def cnt(N:Nat)(A:Int->Prop):Nat:=((List.range N).filter λi=>decide (A (i:Nat))).length
theorem abB(N:Nat)(A:Int->Prop):cnt N A<=N:=by
 have:=vv (λi:Nat=>decide (A i)) (List.range N);simpa [cnt] using this
theorem filter_lt{α:Type}(p q:α->Bool)(h:∀x,p x=true->q x=true):∀(l:List α),
 (l.filter p).length<=(l.filter q).length/\((∃x∈l,q x=true/\p x=false)->(l.filter p).length<(l.filter q).length):=by
 intro l
 induction l with
 |nil=>simp
 |cons a r ih=>
  obtain⟨ih1,ih2⟩:=ih;cases hp:p a with
  |true=>
   have hq:=h a hp;simp only[vk,hp,hq,bQ,List.length_cons];refine⟨by omega,?_⟩;rintro ⟨x,hx,h1,h2⟩
   have:x∈r:=by
    rcases iW.1 hx with rfl|hx
    ·rw[hp]at h2;cases h2
    ·exact hx
   have:=ih2 ⟨x,this,h1,h2⟩;omega
  |false=>
   cases hq:q a with
   |true=>
    simp only[vk,hp,hq,bQ,List.length_cons,dO,bN];exact⟨by omega,λ_=>by omega⟩
   |false=>
    simp only[vk,hp,hq,dO,bN];refine⟨ih1,?_⟩;rintro ⟨x,hx,h1,h2⟩
    have:x∈r:=by
     rcases iW.1 hx with rfl|hx
     ·rw[hq]at h1;cases h1
     ·exact hx
    exact ih2 ⟨x,this,h1,h2⟩
theorem cnt_lt{N:Nat}{A B:Int->Prop}(h:∀n,A n->B n){n:Int}(h0:0<=n)(h1:n<(N:Int))(hb:B n)(ha:¬A n):cnt N A<cnt N B:=by
 obtain⟨k,rfl⟩:∃k:Nat,n=k:=⟨n.toNat,by omega⟩;refine(filter_lt (λi:Nat=>decide (A i)) (λi:Nat=>decide (B i)) (λx hx=> ?_) (List.range N)).2 ⟨k,jC.2 (by omega),?_,?_⟩
 ·simp only[bX]at hx⊢;exact h _ hx
 ·simpa using hb
 ·simpa using ha
theorem abC{N:Nat}{F:(Int->Prop)->Int->Prop}(h:yP N F):∀m n,Lv F m n->Lv F N n:=by
 have ex:∃k,k<=N/\∀n,Lv F (k+1) n->Lv F k n:=by
  refine byContradiction λhno=> ?_
  have grow:∀k,k<=N+1->k<=cnt N (Lv F k):=by
   intro k
   induction k with
   |zero=>intro _;exact aP _
   |succ k ih=>
    intro hk;have h1:=ih (by omega)
    have h2:∃n,Lv F (k+1) n/\¬Lv F k n:=by
     refine byContradiction λhn=>hno ⟨k,by omega,λn hn'=>byContradiction λhc=>hn ⟨n,hn',hc⟩⟩
    obtain⟨n,h3,h4⟩:=h2;have hb:=h.bound _ n h3;have:=cnt_lt (F6 h k) hb.1 hb.2 h3 h4;omega
  have h1:=grow (N+1) (ah _);have h2:=abB N (Lv F (N+1));omega
 obtain⟨k,hk,hstop⟩:=ex
 have all:∀m n,Lv F m n->Lv F k n:=by
  intro m
  induction m with
  |zero=>intro n hn;exact hn.elim
  |succ m ih=>intro n hn;exact hstop n (h.mono _ _ ih n hn)
 exact λm n hn=>abA h hk n (all m n hn)
theorem oG{N:Nat}{F:(Int->Prop)->Int->Prop}(h:yP N F):∀n,F (Lv F N) n->Lv F N n:=λn hn=>abC h (N+1) n hn
theorem F7{F:(Int->Prop)->Int->Prop}(mono:∀A B:Int->Prop,(∀n,A n->B n)->∀n,F A n->F B n){A:Int->Prop}(hA:∀n,F A n->A n):∀k n,Lv F k n->A n:=by
 intro k
 induction k with
 |zero=>intro n hn;exact hn.elim
 |succ k ih=>intro n hn;exact hA n (mono _ _ ih n hn)
def mO(A:Int->Prop)(l:List Sy):Prop:=∀s∈l,s.1=false/\A s.2
def BZ(R:List Ru)(A:Int->Prop)(n:Int):Prop:=∃r∈R,r.1=n/\mO A r.2
def mP(Nu A:Int->Prop)(t:Int)(l:List Sy):Prop:=∃i s,l[i]?=some s/\((s.1=true/\s.2=t)\/(s.1=false/\A s.2))/\mO Nu (l.take i)
def Ao(R:List Ru)(Nu:Int->Prop)(t:Int)(A:Int->Prop)(n:Int):Prop:=∃r∈R,r.1=n/\mP Nu A t r.2
def yQ(R:List Ru)(Nu:Int->Prop)(Fi:Int->Int->Prop)(T t:Int)(A:Int->Prop)(n:Int):Prop:=
 (n=0/\t=T)\/∃r∈R,∃k,r.2[k]?=some (false,n)/\((t<T/\mP Nu (Fi t) t (r.2.drop (k+1)))\/(mO Nu (r.2.drop (k+1))/\A r.1))
theorem mO.mono{A B:Int->Prop}(h:∀n,A n->B n){l:List Sy}(hl:mO A l):mO B l:=λs hs=>⟨(hl s hs).1,h _ (hl s hs).2⟩
theorem mP.mono{Nu A B:Int->Prop}{t:Int}(h:∀n,A n->B n){l:List Sy}(hl:mP Nu A t l):mP Nu B t l:=by
 obtain⟨i,s,h1,h2,h3⟩:=hl;refine⟨i,s,h1,?_,h3⟩;rcases h2 with h2|⟨h2,h4⟩
 ·exact .inl h2
 ·exact .inr ⟨h2,h _ h4⟩
theorem Tv(R:List Ru)(A B:Int->Prop)(h:∀n,A n->B n)(n:Int)(hn:BZ R A n):BZ R B n:=by
 obtain⟨r,h1,h2,h3⟩:=hn;exact⟨r,h1,h2,h3.mono h⟩
theorem Tw(R:List Ru)(Nu:Int->Prop)(t:Int)(A B:Int->Prop)(h:∀n,A n->B n)(n:Int)(hn:Ao R Nu t A n):Ao R Nu t B n:=by
 obtain⟨r,h1,h2,h3⟩:=hn;exact⟨r,h1,h2,h3.mono h⟩
theorem Tx(R:List Ru)(Nu:Int->Prop)(Fi:Int->Int->Prop)(T t:Int)(A B:Int->Prop)(h:∀n,A n->B n)(n:Int)(hn:yQ R Nu Fi T t A n):yQ R Nu Fi T t B n:=by
 rcases hn with hn|⟨r,h1,k,h2,h3⟩
 ·exact .inl hn
 ·refine .inr ⟨r,h1,k,h2,?_⟩
  rcases h3 with h3|⟨h3,h4⟩
  ·exact .inl h3
  ·exact .inr ⟨h3,h _ h4⟩
structure dD(T N:Nat)(R:List Ru):Prop where
 left:∀r∈R,0<=r.1/\r.1<(N:Int)
 name:∀r∈R,∀s∈r.2,s.1=false->0<=s.2/\s.2<(N:Int)
 term:∀r∈R,∀s∈r.2,s.1=true->0<=s.2/\s.2<(T:Int)
 some:1<=N
section
variable{T N:Nat}{R:List Ru}(h:dD T N R)
include h
theorem Ty:yP N (BZ R):=⟨λA B=>Tv R A B,λA n hn=>by obtain⟨r,h1,rfl,_⟩:=hn;exact h.left r h1⟩
theorem NW(Nu:Int->Prop)(t:Int):yP N (Ao R Nu t):=⟨λA B=>Tw R Nu t A B,λA n hn=>by obtain⟨r,h1,rfl,_⟩:=hn;exact h.left r h1⟩
theorem F8(Nu:Int->Prop)(Fi:Int->Int->Prop)(t:Int):yP N (yQ R Nu Fi T t):=⟨λA B=>Tx R Nu Fi T t A B,λA n hn=>by
 rcases hn with⟨rfl,_⟩|⟨r,h1,k,h2,_⟩
 ·have:=h.some;omega
 ·exact h.name r h1 _ (ou h2) rfl⟩
end
def fH(N:Nat)(R:List Ru):Int->Prop:=Lv (BZ R) N
def jG(N:Nat)(R:List Ru)(t:Int):Int->Prop:=Lv (Ao R (fH N R) t) N
def qZ(T N:Nat)(R:List Ru)(t:Int):Int->Prop:=Lv (yQ R (fH N R) (jG N R) T t) N
end Go.Proofs.YthbifaoaiggooaaGreatDoor
namespace Go.Proofs.YthbifaoaiggooaaGreatDoor
def q8(A:Int->Int->Prop):List Sy->Int->Prop
 | [],v=>v=0
 |(true,_)::l,v=> ∃u,q8 A l u/\v=1+u
 |(false,n)::l,v=> ∃a u,A n a/\q8 A l u/\v=a+u
def lid:Int:=1000000000
def F9(R:List Ru)(A:Int->Int->Prop)(n v:Int):Prop:=∃r∈R,r.1=n/\∃s,q8 A r.2 s/\v=min s lid
def q9(R:List Ru):Nat->Int->Int->Prop
 |0,_,_=>False
 |k+1,n,v=>F9 R (q9 R k) n v
def Can(R:List Ru)(n v:Int):Prop:=∃k,q9 R k n v
theorem q8.mono{A B:Int->Int->Prop}(h:∀n v,A n v->B n v):∀{l:List Sy} {v:Int},q8 A l v->q8 B l v:=by
 intro l
 induction l with
 |nil=>intro v hv;exact hv
 |cons s l ih=>
  intro v hv;obtain⟨b,n⟩:=s;cases b with
  |true=>obtain⟨u,h1,h2⟩:=hv;exact⟨u,ih h1,h2⟩
  |false=>obtain⟨a,u,h0,h1,h2⟩:=hv;exact⟨a,u,h _ _ h0,ih h1,h2⟩
theorem F9.mono{R:List Ru}{A B:Int->Int->Prop}(h:∀n v,A n v->B n v){n v:Int}(hv:F9 R A n v):F9 R B n v:=by
 obtain⟨r,h1,h2,s,h3,h4⟩:=hv;exact⟨r,h1,h2,s,h3.mono h,h4⟩
theorem abD{R:List Ru}:∀k n v,q9 R k n v->q9 R (k+1) n v:=by
 intro k
 induction k with
 |zero=>intro n v h;exact h.elim
 |succ k ih=>intro n v h;exact F9.mono ih h
theorem DU{R:List Ru}{k m:Nat}(h:k<=m):∀n v,q9 R k n v->q9 R m n v:=by
 induction h with
 |refl=>intro n v h;exact h
 |step _ ih=>intro n v h;exact abD _ _ _ (ih n v h)
theorem abE{R:List Ru}:∀{l:List Sy} {v:Int},q8 (Can R) l v->∃k,q8 (q9 R k) l v:=by
 intro l
 induction l with
 |nil=>intro v h;exact⟨0,h⟩
 |cons s l ih=>
  intro v h;obtain⟨b,n⟩:=s;cases b with
  |true=>
   obtain⟨u,h1,h2⟩:=h;obtain⟨k,hk⟩:=ih h1;exact⟨k,u,hk,h2⟩
  |false=>
   obtain⟨a,u,⟨m,h0⟩,h1,h2⟩:=h;obtain⟨k,hk⟩:=ih h1;exact⟨max m k,a,u,DU (Nat.le_max_left _ _) _ _ h0,hk.mono (DU (Nat.le_max_right _ _)),h2⟩
theorem abF{R:List Ru}{r:Ru}(hr:r∈R){s:Int}(h:q8 (Can R) r.2 s):Can R r.1 (min s lid):=by
 obtain⟨k,hk⟩:=abE h;exact⟨k+1,r,hr,rfl,s,hk,rfl⟩
theorem Ga{A:Int->Int->Prop}(h:∀n v,A n v->0<=v):∀{l:List Sy} {v:Int},q8 A l v->0<=v:=by
 intro l
 induction l with
 |nil=>intro v hv;have:v=0:=hv;omega
 |cons s l ih=>
  intro v hv;obtain⟨b,n⟩:=s;cases b with
  |true=>obtain⟨u,h1,h2⟩:=hv;have:=ih h1;omega
  |false=>obtain⟨a,u,h0,h1,h2⟩:=hv;have:=ih h1;have:=h _ _ h0;omega
theorem DV{R:List Ru}:∀k n v,q9 R k n v->0<=v/\v<=lid:=by
 intro k
 induction k with
 |zero=>intro n v h;exact h.elim
 |succ k ih=>
  rintro n v ⟨r,_,_,s,h3,rfl⟩;have:=Ga (λn v h=>(ih n v h).1) h3;unfold lid;omega
theorem NY{R:List Ru}{n v:Int}(h:Can R n v):0<=v/\v<=lid:=by
 obtain⟨k,h⟩:=h;exact DV k n v h
structure nM(N:Nat)(R:List Ru)(O:List Int):Prop where
 len:O.length=N
 none:∀n,n<N->O.getD n 0<0->O.getD n 0= -1/\∀v,¬Can R n v
 some:∀n,n<N->0<=O.getD n 0->Can R n (O.getD n 0)/\∀v,Can R n v->O.getD n 0<=v
theorem nM.one{N:Nat}{R:List Ru}{O P:List Int}(h:nM N R O)(k:nM N R P):O=P:=by
 refine wP (by rw[h.len,k.len]) λi h1 h2=> ?_;have hi:i<N:=by rw[<-h.len];exact h1
 have e1:O.getD i 0=O[i]:=by simp[List.getD,h1]
 have e2:P.getD i 0=P[i]:=by simp[List.getD,h2]
 rw[<-e1,<-e2];by_cases a:O.getD i 0<0
 ·obtain⟨a1,a2⟩:=h.none i hi a
  by_cases b:P.getD i 0<0
  ·rw[a1,(k.none i hi b).1]
  ·exact absurd (k.some i hi (by omega)).1 (a2 _)
 ·obtain⟨a1,a2⟩:=h.some i hi (by omega)
  by_cases b:P.getD i 0<0
  ·exact absurd a1 ((k.none i hi b).2 _)
  ·obtain⟨b1,b2⟩:=k.some i hi (by omega)
   have:=a2 _ b1;have:=b2 _ a1;omega
def iY(O:List Int):List Sy->Option Int
 | []=>some 0
 |(true,_)::l=>(iY O l).map (1+ ·)
 |(false,n)::l=>if O.getD n.toNat 0<0 then none else (iY O l).map (O.getD n.toNat 0+ ·)
def dA(O:List Int)(l:List Sy):Int:=match iY O l with|none=> -1|some s=>min s lid
structure Told(N:Nat)(R:List Ru)(O:List Int):Prop where
 len:O.length=N
 neg:∀n,n<N->O.getD n 0<0->O.getD n 0= -1
 some:∀n,n<N->0<=O.getD n 0->Can R n (O.getD n 0)/\∀v,Can R n v->O.getD n 0<=v
section
variable{T N:Nat}{R:List Ru}
theorem Kb{O:List Int}(hO:∀n:Nat,n<N->0<=O.getD n 0->Can R n (O.getD n 0)):∀{l:List Sy} {s:Int},(∀x∈l,x.1=false->0<=x.2/\x.2<(N:Int))->iY O l=some s->q8 (Can R) l s/\0<=s:=by
 intro l
 induction l with
 |nil=>intro s _ h;simp only[iY,bM]at h;subst h;exact⟨rfl,su _⟩
 |cons x l ih=>
  intro s hin h;have hin':∀x∈l,x.1=false->0<=x.2/\x.2<(N:Int):=λx hx=>hin x (mH _ hx);obtain⟨b,n⟩:=x;cases b with
  |true=>
   simp only[iY,yK]at h;obtain⟨u,h1,rfl⟩:=h;obtain⟨k1,k2⟩:=ih hin' h1;exact⟨⟨u,k1,rfl⟩,by omega⟩
  |false=>
   have hn:=hin (false,n) (by simp) rfl;simp only at hn;simp only[iY]at h;split at h
   ·cases h
   ·rename_i hneg
    simp only[yK]at h;obtain⟨u,h1,rfl⟩:=h;obtain⟨k1,k2⟩:=ih hin' h1;have hc:=hO n.toNat (by omega) (by omega);have e:((n.toNat:Nat):Int)=n:=by omega
    rw[e]at hc;exact⟨⟨_,u,hc,k1,rfl⟩,by omega⟩
theorem abG{O:List Int}{l:List Sy}(hO:∀n:Nat,n<N->0<=O.getD n 0->Can R n (O.getD n 0))(hin:∀x∈l,x.1=false->0<=x.2/\x.2<(N:Int)):dA O l= -1\/0<=dA O l/\dA O l<=lid:=by
 unfold dA;cases h:iY O l with
 |none=>exact .inl rfl
 |some s=>
  have:=(Kb hO hin h).2;right;simp only[lid];omega
theorem TA{O:List Int}(hf:dD T N R)(hO:∀n:Nat,n<N->0<=O.getD n 0->Can R n (O.getD n 0)){r:Ru}(hr:r∈R)(h:0<=dA O r.2):Can R r.1 (dA O r.2):=by
 unfold dA at h⊢;cases hs:iY O r.2 with
 |none=>rw[hs]at h;simp at h
 |some s=>exact abF hr (Kb hO (hf.name r hr) hs).1
theorem TB{O:List Int}{A:Int->Int->Prop}(hA:∀n v,A n v->0<=v):∀{l:List Sy} {s:Int},(∀n v:Int,(false,n)∈l->A n v->0<=O.getD n.toNat 0->O.getD n.toNat 0<=v)->q8 A l s->
 (∃s',iY O l=some s'/\s'<=s)\/∃n v:Int,(false,n)∈l/\O.getD n.toNat 0<0/\A n v/\v<=s:=by
 intro l
 induction l with
 |nil=>intro s _ h;have h':s=0:=h;subst h';exact .inl ⟨0,rfl,su _⟩
 |cons x l ih=>
  intro s hle h;have hle':∀n v:Int,(false,n)∈l->A n v->0<=O.getD n.toNat 0->O.getD n.toNat 0<=v:=λn v hm=>hle n v (mH _ hm);obtain⟨b,n⟩:=x;cases b with
  |true=>
   obtain⟨u,h1,h2⟩:=h;have hu:=Ga hA h1;rcases ih hle' h1 with⟨s',k1,k2⟩|⟨m,v,k1,k2,k3,k4⟩
   ·exact .inl ⟨1+s',by simp[iY,k1],by omega⟩
   ·exact .inr ⟨m,v,mH _ k1,k2,k3,by omega⟩
  |false=>
   obtain⟨a,u,h0,h1,h2⟩:=h;have hu:=Ga hA h1;have ha:=hA _ _ h0;by_cases hneg:O.getD n.toNat 0<0
   ·exact .inr ⟨n,a,by simp,hneg,h0,by omega⟩
   ·rcases ih hle' h1 with⟨s',k1,k2⟩|⟨m,v,k1,k2,k3,k4⟩
    ·have:=hle n a (by simp) h0 (by omega)
     exact .inl ⟨O.getD n.toNat 0+s',by rw[iY,aj hneg,k1];rfl,by omega⟩
    ·exact .inr ⟨m,v,mH _ k1,k2,k3,by omega⟩
theorem TD{O:List Int}(hf:dD T N R)(hO:Told N R O){b:Int}(hb:∀r∈R,O.getD r.1.toNat 0<0->0<=dA O r.2->b<=dA O r.2):∀k n v,q9 R k n v->O.getD n.toNat 0<0->
 b<=v/\∃r∈R,O.getD r.1.toNat 0<0/\0<=dA O r.2:=by
 intro k
 induction k with
 |zero=>intro n v h;exact h.elim
 |succ k ih=>
  rintro n v ⟨r,hr,rfl,s,hs,rfl⟩ hneg;have hsn:=Ga (λn v h=>(DV k n v h).1) hs
  have hle:∀n v:Int,(false,n)∈r.2->q9 R k n v->0<=O.getD n.toNat 0->O.getD n.toNat 0<=v:=λn v hm hc h0=>by
   have hn:=hf.name r hr _ hm rfl;simp only at hn;refine(hO.some n.toNat (by omega) h0).2 v ?_;have e:((n.toNat:Nat):Int)=n:=by omega
   rw[e];exact⟨k,hc⟩
  rcases TB (λn v h=>(DV k n v h).1) hle hs with⟨s',h1,h2⟩|⟨m,u,h1,h2,h3,h4⟩
  ·have hs':=(Kb (λn hn h=>(hO.some n hn h).1) (hf.name r hr) h1).2
   have hv:dA O r.2=min s' lid:=by unfold dA;rw[h1]
   have h0:0<=dA O r.2:=by rw[hv];unfold lid;omega
   have:=hb r hr hneg h0;rw[hv]at this;exact⟨by omega,r,hr,hneg,h0⟩
  ·obtain⟨a1,a2⟩:=ih m u h3 h2
   have:=(DV k m u h3).2;exact⟨by omega,a2⟩
def yR(R:List Ru)(O:List Int)(i:Nat)(p:Int×Int):Int×Int:=
 if 0<=O.getD (R.getD i (0,[])).1.toNat 0 then p else
  if 0<=dA O (R.getD i (0,[])).2/\(p.1<0\/dA O (R.getD i (0,[])).2<p.1) then (dA O (R.getD i (0,[])).2,(R.getD i (0,[])).1) else p
def pQ(R:List Ru)(O:List Int):Int×Int:=bf R.length (yR R O) (-1,-1)
def Ca(R:List Ru)(O:List Int)(j:Nat):Prop:=O.getD (R.getD j (0,[])).1.toNat 0<0/\0<=dA O (R.getD j (0,[])).2
theorem NZ(R:List Ru)(O:List Int)(n:Nat)(hn:n<=R.length):(bf n (yR R O) (-1,-1)=(-1,-1)/\∀j,j<n->¬Ca R O j)\/
 (∃j,j<n/\Ca R O j/\bf n (yR R O) (-1,-1)=(dA O (R.getD j (0,[])).2,(R.getD j (0,[])).1))/\∀j,j<n->Ca R O j->(bf n (yR R O) (-1,-1)).1<=dA O (R.getD j (0,[])).2:=by
 induction n with
 |zero=>exact .inl ⟨rfl,λj hj=>absurd hj (iI _)⟩
 |succ n ih=>
  have e:bf (n+1) (yR R O) (-1,-1)=yR R O n (bf n (yR R O) (-1,-1)):=rfl;rw[e];obtain⟨p,hp⟩:=af (bf n (yR R O) (-1,-1));rw[hp]at ih⊢;unfold yR;by_cases h0:0<=O.getD (R.getD n (0,[])).1.toNat 0
  ·rw[au h0]
   have hno:¬Ca R O n:=λh=>by have:=h.1;omega
   rcases ih (by omega) with⟨h1,h2⟩|⟨⟨j,h1,h2,h3⟩,h4⟩
   ·refine .inl ⟨h1,λj hj=> ?_⟩
    rcases fJ.1 hj with hj|rfl
    ·exact h2 j hj
    ·exact hno
   ·refine .inr ⟨⟨j,by omega,h2,h3⟩,λi hi hc=> ?_⟩
    rcases fJ.1 hi with hi|rfl
    ·exact h4 i hi hc
    ·exact absurd hc hno
  ·rw[aj h0]
   by_cases h1:0<=dA O (R.getD n (0,[])).2
   ·have hc:Ca R O n:=⟨by omega,h1⟩
    rcases ih (by omega) with⟨rfl,h2⟩|⟨⟨j,k1,k2,k3⟩,h4⟩
    ·rw[au ⟨h1,.inl (by simp)⟩]
     refine .inr ⟨⟨n,by omega,hc,rfl⟩,λi hi hci=> ?_⟩;rcases fJ.1 hi with hi|rfl
     ·exact absurd hci (h2 i hi)
     ·exact su _
    ·have hp1:0<=p.1:=by rw[k3];exact k2.2
     by_cases h5:dA O (R.getD n (0,[])).2<p.1
     ·rw[au ⟨h1,.inr h5⟩]
      refine .inr ⟨⟨n,by omega,hc,rfl⟩,λi hi hci=> ?_⟩;rcases fJ.1 hi with hi|rfl
      ·have:=h4 i hi hci;simp only;omega
      ·exact su _
     ·rw[aj (by rintro ⟨_,h|h⟩<;>omega)]
      refine .inr ⟨⟨j,by omega,k2,k3⟩,λi hi hci=> ?_⟩;rcases fJ.1 hi with hi|rfl
      ·exact h4 i hi hci
      ·omega
   ·have hno:¬Ca R O n:=λh=>h1 h.2
    rw[aj (λh=>h1 h.1)];rcases ih (by omega) with⟨k1,h2⟩|⟨⟨j,k1,k2,k3⟩,h4⟩
    ·refine .inl ⟨k1,λj hj=> ?_⟩
     rcases fJ.1 hj with hj|rfl
     ·exact h2 j hj
     ·exact hno
    ·refine .inr ⟨⟨j,by omega,k2,k3⟩,λi hi hci=> ?_⟩
     rcases fJ.1 hi with hi|rfl
     ·exact h4 i hi hci
     ·exact absurd hci hno
def unset(O:List Int):Nat:=(O.filter λv=>decide (v<0)).length
theorem abH{O:List Int}{k:Nat}{v:Int}(hk:k<O.length)(h0:O.getD k 0<0)(hv:0<=v):unset (O.set k v)<unset O:=by
 induction O generalizing k with
 |nil=>simp at hk
 |cons x O ih=>
  cases k with
  |zero=>
   have hx:x<0:=by simpa using h0
   have:¬v<0:=by omega
   simp[unset,hx,this]
  |succ k=>
   have:=ih (k:=k) (by simpa using hk) (by simpa using h0);unfold unset at this⊢;simp only[List.set_cons_succ,vk];split<;>simp<;>exact this
theorem abI{O:List Int}(hf:dD T N R)(hO:Told N R O)(h:(pQ R O).2<0):nM N R O:=by
 refine⟨hO.len,λn hn hneg=>⟨hO.neg n hn hneg,λv ⟨k,hv⟩=> ?_⟩,hO.some⟩;rcases NZ R O R.length (ah _) with⟨_,h2⟩|⟨⟨j,h1,h2,h3⟩,_⟩
 ·have hno:∀r∈R,O.getD r.1.toNat 0<0->0<=dA O r.2->False:=λr hr k1 k2=>by
   obtain⟨j,hj,rfl⟩:=kE hr;have e:R.getD j (0,[])=R[j]:=by simp[List.getD,hj]
   exact h2 j hj ⟨by rw[e];exact k1,by rw[e];exact k2⟩
  obtain⟨_,r,hr,k1,k2⟩:=TD hf hO (b:=0) (λr hr k1 k2=>(hno r hr k1 k2).elim) k n v hv (by simpa using hneg);exact hno r hr k1 k2
 ·have e:(pQ R O).2=(R.getD j (0,[])).1:=by unfold pQ;rw[h3]
  have hm:R.getD j (0,[])∈R:=by simp[List.getD,h1]
  have:=hf.left _ hm;omega
theorem abJ{O:List Int}(hf:dD T N R)(hO:Told N R O)(h:0<=(pQ R O).2):
 (pQ R O).2<(N:Int)/\0<=(pQ R O).1/\(pQ R O).1<=lid/\Told N R (O.set (pQ R O).2.toNat (pQ R O).1)/\unset (O.set (pQ R O).2.toNat (pQ R O).1)<unset O:=by
 rcases NZ R O R.length (ah _) with⟨h1,_⟩|⟨⟨j,h1,h2,h3⟩,h4⟩
 ·unfold pQ at h
  rw[h1]at h;simp at h
 ·have hm:R.getD j (0,[])∈R:=by simp[List.getD,h1]
  have hL:=hf.left _ hm;have e:pQ R O=(dA O (R.getD j (0,[])).2,(R.getD j (0,[])).1):=h3
  have e4:∀i,i<R.length->Ca R O i->dA O (R.getD j (0,[])).2<=dA O (R.getD i (0,[])).2:=λi hi hc=>by
   have:=h4 i hi hc;rw[h3]at this;exact this
  rw[e];simp only;have hcan:=TA hf (λn hn h=>(hO.some n hn h).1) hm h2.2;have hlen:(R.getD j (0,[])).1.toNat<O.length:=by rw[hO.len];omega
  have cast:(((R.getD j (0,[])).1.toNat:Nat):Int)=(R.getD j (0,[])).1:=by omega
  refine⟨hL.2,h2.2,(NY hcan).2,⟨by simp[hO.len],λn hn hneg=> ?_,λn hn hpos=> ?_⟩,abH hlen h2.1 h2.2⟩
  ·by_cases nN:(R.getD j (0,[])).1.toNat=n
   ·have e1:(O.set (R.getD j (0,[])).1.toNat (dA O (R.getD j (0,[])).2)).getD n 0=dA O (R.getD j (0,[])).2:=by rw[nN]at hlen⊢;rw[List.getD,JM hlen];rfl
    rw[e1]at hneg;have:=h2.2;omega
   ·have e1:(O.set (R.getD j (0,[])).1.toNat (dA O (R.getD j (0,[])).2)).getD n 0=O.getD n 0:=by rw[List.getD,Du nN];rfl
    rw[e1]at hneg⊢;exact hO.neg n hn hneg
  ·by_cases nN:(R.getD j (0,[])).1.toNat=n
   ·have e1:(O.set (R.getD j (0,[])).1.toNat (dA O (R.getD j (0,[])).2)).getD n 0=dA O (R.getD j (0,[])).2:=by rw[nN]at hlen⊢;rw[List.getD,JM hlen];rfl
    rw[e1,<-nN,cast];refine⟨hcan,λv ⟨k,hv⟩=> ?_⟩
    exact(TD hf hO (b:=dA O (R.getD j (0,[])).2) (λr hr k1 k2=>by
     obtain⟨i,hi,rfl⟩:=kE hr;have e2:R.getD i (0,[])=R[i]:=by simp[List.getD,hi]
     have:=e4 i hi ⟨by rw[e2];exact k1,by rw[e2];exact k2⟩
     rwa [e2]at this) k _ v hv h2.1).1
   ·have e1:(O.set (R.getD j (0,[])).1.toNat (dA O (R.getD j (0,[])).2)).getD n 0=O.getD n 0:=by rw[List.getD,Du nN];rfl
    rw[e1]at hpos⊢;exact hO.some n hn hpos
theorem abK(N:Nat)(R:List Ru):Told N R (List.replicate N (-1)):=by
 refine⟨by simp,λn hn _=>by simp[List.getD,hn],λn hn h=> ?_⟩;simp[List.getD,hn]at h
end
def jR(a b:Int):Int:=if a= -1\/(b≠ -1/\b<a) then b else a
def pR(R:List Ru)(j:Nat)(O:List Int):List Int:=O.set (R.getD j (0,[])).1.toNat (jR (O.getD (R.getD j (0,[])).1.toNat 0) (dA O (R.getD j (0,[])).2))
def Gb(R:List Ru)(O:List Int):List Int:=bf R.length (pR R) O
section
variable{T N:Nat}{R:List Ru}
structure rq(N:Nat)(R:List Ru)(O:List Int):Prop where
 len:O.length=N
 neg:∀n,n<N->O.getD n 0<0->O.getD n 0= -1
 some:∀n:Nat,n<N->0<=O.getD n 0->Can R n (O.getD n 0)
def vH(R:List Ru)(k:Nat)(O:List Int):Prop:=∀n v,q9 R k n v->0<=O.getD n.toNat 0/\O.getD n.toNat 0<=v
def TF(O P:List Int):Prop:=∀n:Nat,0<=O.getD n 0->n<O.length->0<=P.getD n 0/\P.getD n 0<=O.getD n 0
theorem abL{O:List Int}{A:Int->Int->Prop}(hO:∀n:Nat,n<N->0<=O.getD n 0->A n (O.getD n 0)):∀{l:List Sy} {s:Int},(∀x∈l,x.1=false->0<=x.2/\x.2<(N:Int))->iY O l=some s->q8 A l s:=by
 intro l
 induction l with
 |nil=>intro s _ h;simp only[iY,bM]at h;subst h;exact rfl
 |cons x l ih=>
  intro s hin h;have hin':∀x∈l,x.1=false->0<=x.2/\x.2<(N:Int):=λx hx=>hin x (mH _ hx);obtain⟨b,n⟩:=x;cases b with
  |true=>
   simp only[iY,yK]at h;obtain⟨u,h1,rfl⟩:=h;exact⟨u,ih hin' h1,rfl⟩
  |false=>
   have hn:=hin (false,n) (by simp) rfl;simp only at hn;simp only[iY]at h;split at h
   ·cases h
   ·rename_i hneg
    simp only[yK]at h;obtain⟨u,h1,rfl⟩:=h;have hc:=hO n.toNat (by omega) (by omega);have e:((n.toNat:Nat):Int)=n:=by omega
    rw[e]at hc;exact⟨_,u,hc,ih hin' h1,rfl⟩
theorem Gc{O:List Int}{n:Nat}{v:Int}(h:n<O.length):(O.set n v).getD n 0=v:=by rw[List.getD,JM h];rfl
theorem getD_set_ne{O:List Int}{n m:Nat}{v:Int}(h:m≠n):(O.set m v).getD n 0=O.getD n 0:=by rw[List.getD,Du h];rfl
theorem TG(O:List Int):unset O<=O.length:=vv _ _
theorem abM(hf:dD T N R):∀(d:Nat) (O:List Int),unset O<=d->Told N R O->(∀n:Nat,n<N->0<=O.getD n 0->q9 R (N-unset O) n (O.getD n 0))->
 ∃P,nM N R P/\∀n:Nat,n<N->0<=P.getD n 0->q9 R N n (P.getD n 0):=by
 intro d
 induction d with
 |zero=>
  intro O hd hO hL;refine⟨O,⟨hO.len,λn hn hneg=> ?_,hO.some⟩,λn hn h=>DU (Nat.sub_le _ _) _ _ (hL n hn h)⟩;exfalso
  have:O.getD n 0∈O.filter λv=>decide (v<0):=by
   rw[sD];exact⟨by rw[<-hO.len]at hn;simp[List.getD,hn],by simpa using hneg⟩
  have:=List.length_pos_of_mem this;unfold unset at hd;omega
 |succ d ih=>
  intro O hd hO hL;by_cases hp:(pQ R O).2<0
  ·exact⟨O,abI hf hO hp,λn hn h=>DU (Nat.sub_le _ _) _ _ (hL n hn h)⟩
  ·obtain⟨h1,h2,h3,h4,h5⟩:=abJ hf hO (by omega)
   have hun:=TG O;rw[hO.len]at hun;refine ih _ (by omega) h4 λn hn h=> ?_;rcases NZ R O R.length (ah _) with⟨k1,_⟩|⟨⟨j,k1,k2,k3⟩,_⟩
   ·exfalso
    apply hp;unfold pQ;rw[k1];decide
   ·have hm:R.getD j (0,[])∈R:=by simp[List.getD,k1]
    have Gf:=hf.left _ hm;have e:pQ R O=(dA O (R.getD j (0,[])).2,(R.getD j (0,[])).1):=k3;rw[e]at h h5⊢;simp only at h h5⊢;have hlen:(R.getD j (0,[])).1.toNat<O.length:=by rw[hO.len];omega
    by_cases nN:(R.getD j (0,[])).1.toNat=n
    ·subst nN
     rw[Gc hlen];have cast:(((R.getD j (0,[])).1.toNat:Nat):Int)=(R.getD j (0,[])).1:=by omega
     rw[cast];refine DU (k:=(N-unset O)+1) (by omega) _ _ ?_;have hv:=k2.2;unfold dA at hv⊢;cases hs:iY O (R.getD j (0,[])).2 with
     |none=>rw[hs]at hv;simp at hv
     |some s=>exact⟨_,hm,rfl,s,abL hL (hf.name _ hm) hs,rfl⟩
    ·rw[getD_set_ne nN]at h⊢
     exact DU (by omega) _ _ (hL n hn h)
theorem TH(hf:dD T N R){O:List Int}(h:rq N R O){j:Nat}(hj:j<R.length):
 rq N R (pR R j O)/\TF O (pR R j O)/\(0<=dA O (R.getD j (0,[])).2->0<=(pR R j O).getD (R.getD j (0,[])).1.toNat 0/\(pR R j O).getD (R.getD j (0,[])).1.toNat 0<=dA O (R.getD j (0,[])).2):=by
 have hm:R.getD j (0,[])∈R:=by simp[List.getD,hj]
 have hL:=hf.left _ hm;have hlen:(R.getD j (0,[])).1.toNat<O.length:=by rw[h.len];omega
 have hr:=abG (R:=R) h.some (hf.name _ hm);have hc:=TA hf h.some hm;have cast:(((R.getD j (0,[])).1.toNat:Nat):Int)=(R.getD j (0,[])).1:=by omega
 have hneg:=h.neg _ (show (R.getD j (0,[])).1.toNat<N by omega);have hsome:=h.some _ (show (R.getD j (0,[])).1.toNat<N by omega);rw[cast]at hsome;unfold pR;obtain⟨x,hx⟩:=af (O.getD (R.getD j (0,[])).1.toNat 0);obtain⟨y,hy⟩:=af (dA O (R.getD j (0,[])).2);rw[hx]at hneg hsome⊢;rw[hy]at hr hc⊢
 have hz:(jR x y<0->jR x y= -1)/\(0<=jR x y->Can R (R.getD j (0,[])).1 (jR x y))/\(0<=x->0<=jR x y/\jR x y<=x)/\(0<=y->0<=jR x y/\jR x y<=y):=by
  unfold jR;by_cases h0:x= -1\/(y≠ -1/\y<x)
  ·rw[au h0]
   exact⟨λ_=>by omega,hc,λ_=>by omega,λ_=>by omega⟩
  ·rw[aj h0]
   exact⟨hneg,hsome,λ_=>by omega,λ_=>by omega⟩
 obtain⟨z,hzz⟩:=af (jR x y);rw[hzz]at hz⊢;obtain⟨z1,z2,z3,z4⟩:=hz;refine⟨⟨by simp[h.len],λn hn k=> ?_,λn hn k=> ?_⟩,λn hn k=> ?_,λk=>by rw[Gc hlen];exact z4 k⟩
 ·by_cases nN:(R.getD j (0,[])).1.toNat=n
  ·subst nN
   rw[Gc hlen]at k⊢;exact z1 k
  ·rw[getD_set_ne nN]at k⊢
   exact h.neg n hn k
 ·by_cases nN:(R.getD j (0,[])).1.toNat=n
  ·subst nN
   rw[Gc hlen]at k⊢;rw[cast];exact z2 k
  ·rw[getD_set_ne nN]at k⊢
   exact h.some n hn k
 ·by_cases nN:(R.getD j (0,[])).1.toNat=n
  ·subst nN
   rw[Gc hlen];rw[hx]at hn⊢;exact z3 hn
  ·rw[getD_set_ne nN]
   exact⟨hn,su _⟩
theorem vH.le{k:Nat}{O P:List Int}(hf:dD T N R)(hl:O.length=N)(h:vH R k O)(hle:TF O P):vH R k P:=by
 intro n v hv;obtain⟨h1,h2⟩:=h n v hv
 have hn:n.toNat<O.length:=by
  cases k with
  |zero=>exact hv.elim
  |succ k=>
   obtain⟨r,hr,rfl,_⟩:=hv;have:=hf.left r hr;rw[hl];omega
 obtain⟨k1,k2⟩:=hle _ h1 hn;exact⟨k1,by omega⟩
theorem abN(hf:dD T N R){k:Nat}{O:List Int}(h:rq N R O)(hk:vH R k O):rq N R (Gb R O)/\vH R (k+1) (Gb R O):=by
 have main:=qz (n:=R.length) (f:=pR R) (x:=O)
  (λm P=>rq N R P/\vH R k P/\∀i,i<m->∀s,q8 (q9 R k) (R.getD i (0,[])).2 s->0<=P.getD (R.getD i (0,[])).1.toNat 0/\P.getD (R.getD i (0,[])).1.toNat 0<=min s lid)
  ⟨h,hk,λi hi=>absurd hi (iI _)⟩
  (λm hm P ⟨h1,h2,h3⟩=>by
    obtain⟨k1,k2,k3⟩:=TH hf h1 hm;refine⟨k1,h2.le hf h1.len k2,λi hi s hs=> ?_⟩;rcases fJ.1 hi with hi|rfl
    ·obtain⟨a1,a2⟩:=h3 i hi s hs
     have N7:R.getD i (0,[])∈R:=by simp[List.getD,show i<R.length by omega]
     have:=hf.left _ N7;obtain⟨b1,b2⟩:=k2 _ a1 (by rw[h1.len];omega);exact⟨b1,by omega⟩
    ·have hsn:=Ga (λn v h=>(DV k n v h).1) hs
     rcases TB (O:=P) (λn v h=>(DV k n v h).1) (λn v _ hc _=>(h2 n v hc).2) hs with⟨s',a1,a2⟩|⟨n,v,_,a2,a3,_⟩
     ·have N7:R.getD i (0,[])∈R:=by simp[List.getD,hm]
      have hs':=(Kb h1.some (hf.name _ N7) a1).2;have hv:dA P (R.getD i (0,[])).2=min s' lid:=by unfold dA;rw[a1]
      rw[hv]at k3;obtain⟨b1,b2⟩:=k3 (by unfold lid;omega);exact⟨b1,by omega⟩
     ·have:=(h2 n v a3).1
      omega)
 obtain⟨h1,_,h3⟩:=main;refine⟨h1,?_⟩;rintro n v ⟨r,hr,rfl,s,hs,rfl⟩;obtain⟨i,hi,rfl⟩:=kE hr;have e:R.getD i (0,[])=R[i]:=by simp[List.getD,hi]
 rw[<-e]at hs⊢;exact h3 i hi s hs
theorem TI(N:Nat)(R:List Ru):rq N R (List.replicate N (-1))/\vH R 0 (List.replicate N (-1)):=by
 refine⟨⟨by simp,λn hn _=>by simp[List.getD,hn],λn hn h=> ?_⟩,λn v h=>h.elim⟩;simp[List.getD,hn]at h
theorem abO(hf:dD T N R){O:List Int}(h:rq N R O)(hk:vH R N O):nM N R O:=by
 obtain⟨P,hP,hD⟩:=abM hf N (List.replicate N (-1)) (by simpa using TG (List.replicate N (-1))) (abK N R) (λn hn h=>by simp[List.getD,hn]at h)
 have key:∀(n:Nat) v,n<N->Can R n v->0<=O.getD n 0/\O.getD n 0<=v:=λn v hn hv=>by
  by_cases hneg:P.getD n 0<0
  ·exact absurd hv ((hP.none n hn hneg).2 v)
  ·have h1:=(hP.some n hn (by omega)).2 v hv
   obtain⟨k1,k2⟩:=hk _ _ (hD n hn (by omega));simp only[Int.toNat_natCast]at k1 k2;exact⟨k1,by omega⟩
 exact⟨h.len,λn hn hneg=>⟨h.neg n hn hneg,λv hv=>by have:=(key n v hn hv).1;omega⟩,λn hn h0=>⟨h.some n hn h0,λv hv=>(key n v hn hv).2⟩⟩
end
end Go.Proofs.YthbifaoaiggooaaGreatDoor
namespace Go.Proofs.YthbifaoaiggooaaGreatDoor
open Go.RowKit
theorem abP{w:World}{a b:Int}:Calls Tryz.prog 48 #[.int .i64 a,.int .i64 b] w λe w'=>e= .returned (.int .i64 (jR a b))/\w'=w:=by
 by_cases ha:a= -1
 ·have HL:Hid (jR a b=b):=by show jR a b=b;unfold jR;rw[au (.inl ha)]
  have e1:(a== -1)=true:=by simpa using ha
  clear ha
  go_enter Tryz.func48,Tryz.ntmps48
  go_wp2_with fail
  go_ret;exact⟨by rw[HL.out];rfl,rfl⟩
 ·have e1:(a== -1)=false:=by simpa using ha
  by_cases hb:b= -1
  ·have HL:Hid (jR a b=a):=by show jR a b=a;unfold jR;rw[aj (by omega)]
   have e2:(b != -1)=false:=by simpa using hb
   clear ha hb
   go_enter Tryz.func48,Tryz.ntmps48
   go_wp2_with fail
   go_ret;exact⟨by rw[HL.out];rfl,rfl⟩
  ·have e2:(b != -1)=true:=by simpa using hb
   by_cases hlt:b<a
   ·have HL:Hid (jR a b=b):=by show jR a b=b;unfold jR;rw[au (.inr ⟨hb,hlt⟩)]
    clear ha hb
    go_enter Tryz.func48,Tryz.ntmps48
    go_wp2_with fail
    go_ret;exact⟨by rw[HL.out];rfl,rfl⟩
   ·have HL:Hid (jR a b=a):=by show jR a b=a;unfold jR;rw[aj (by omega)]
    have e3:decide (b<a)=false:=aU hlt;clear ha hb
    go_enter Tryz.func48,Tryz.ntmps48
    go_wp2_with fail
    go_ret;exact⟨by rw[HL.out];rfl,rfl⟩
theorem TJ{O:List Int}:∀{l:List Sy} {s:Int},iY O l=some s->0<=s:=by
 intro l
 induction l with
 |nil=>intro s h;simp only[iY,bM]at h;omega
 |cons x l ih=>
  intro s h;obtain⟨b,n⟩:=x;cases b with
  |true=>
   simp only[iY,yK]at h;obtain⟨u,h1,rfl⟩:=h;have:=ih h1;omega
  |false=>
   simp only[iY]at h;split at h
   ·cases h
   ·simp only[yK]at h
    obtain⟨u,h1,rfl⟩:=h;have:=ih h1;omega
def xD(O:List Int)(l:List Sy)(k:Nat)(p:Int):Int:=match iY O (l.drop k) with|none=> -1|some s=>min (p+s) lid
theorem abQ{O:List Int}{l:List Sy}{k:Nat}{p:Int}{t:Bool}{v:Int}(hk:k<l.length)(hs:l.getD k (false,0)=(t,v)):
 xD O l k p=if t then xD O l (k+1) (min (p+1) lid) else if O.getD v.toNat 0<0 then -1 else xD O l (k+1) (min (p+O.getD v.toNat 0) lid):=by
 have hd:l.drop k=(t,v)::l.drop (k+1):=by rw[wO hk,<-hs];simp[List.getD,hk]
 unfold xD;rw[hd];cases t with
 |true=>
  simp only[iY,bQ];cases h:iY O (l.drop (k+1)) with
  |none=>rfl
  |some s=>
   have:=TJ h;simp only[Option.map_some,lid];omega
 |false=>
  simp only[iY,dO,bN];by_cases hn:O.getD v.toNat 0<0
  ·rw[au hn,au hn]
  ·rw[aj hn,aj hn]
   cases h:iY O (l.drop (k+1)) with
   |none=>rfl
   |some s=>
    have:=TJ h;simp only[Option.map_some,lid];omega
theorem abR{w:World}{lim qc N:Nat}{qa:Option Addr}{ov:Value}{l:List Sy}{O:List Int}(hl:iy w lim qa l)(hlim:lim<=w.heap.size)(ho:aY w w.heap.size ov O)(hO:O.length=N)(hin:∀s∈l,s.1=false->0<=s.2/\s.2<(N:Int))
 (TK:∀i,i<N->O.getD i 0<=lid) (hneg:∀i,i<N->O.getD i 0<0->O.getD i 0= -1) (h8:l.length<=8):
 Calls Tryz.prog 49 #[ov,.slice qa l.length qc] w λe w'=>e= .returned (.int .i64 (dA O l))/\Below w.heap.size w w':=by
 obtain⟨oa,oc,hov⟩:=ho.1;subst hov;have HL:Hid (iy w lim qa l):=hl;have HO:Hid (aY w w.heap.size (.slice oa O.length oc) O):=ho;have HI:Hid (∀s∈l,s.1=false->0<=s.2/\s.2<(N:Int)):=hin;have abS:Hid (∀i,i<N->O.getD i 0<=lid/\(O.getD i 0<0->O.getD i 0= -1)):=λi hi=>⟨TK i hi,hneg i hi⟩;clear hl ho hin TK hneg
 go_enter Tryz.func49,Tryz.ntmps49
 go_wp2_with fail
 go_loopw [5,11] (λs5 s11 wr=> ∃(k:Nat) (p:Int),s5= .int .i64 p/\s11= .int .i64 k/\k<=l.length/\0<=p/\p<=lid/\dA O l=xD O l k p/\Below w.heap.size w wr) (λ_ s _=>l.length-(intOf s).toNat)
 case atStart=>exact⟨0,0,rfl,rfl,aP _,su _,by simp[lid],by unfold dA xD;rw[om];cases iY O l<;>simp,ai _ _⟩
 case round=>
  obtain⟨k,p,rfl,rfl,hk,hp0,hp1,hS,hB⟩:=hrel;have HB:Hid (Below w.heap.size w wr):=hB;have hsz:=hB.size;by_cases hlt:k<l.length
  ·obtain⟨b',o',sS,hb',k3,k4⟩:=(HL.out.below (hB.mono hlim)) k hlt
   subst sS;have hmem:l.getD k (false,0)∈l:=by simp[List.getD,hlt]
   have hr:=HI.out _ hmem;obtain⟨⟨t,v⟩,hs⟩:=af (l.getD k (false,0));have hS':=hS.trans (abQ hlt hs);rw[hs]at k3 k4 hr;have DT:wr.cell? ⟨b',o'+k*2+1,none⟩=some (.int .i64 v):=by rw[kF];exact k4
   have j0:(0:Int)<=(k:Int):=aF _;have j1:(k:Int)<(l.length:Int):=by omega
   have hk8:(k:Int)<=8:=by omega
   have hp2:p<=1000000000:=by unfold lid at hp1;omega
   have HS:Hid (dA O l=if t then xD O l (k+1) (min (p+1) lid) else if O.getD v.toNat 0<0 then -1 else xD O l (k+1) (min (p+O.getD v.toNat 0) lid)):=hS';clear hS hS' hs hmem k4;cases t with
   |true=>
    have hw:IntKind.i64.wrap (p+1)=p+1:=uE _ (by omega);have HA:Hid (Below w.heap.size w (wr.alloc (.cells #[.bool true,.int .i64 v] 121))):=HB.out.alloc hsz _;clear hB
    go_wp2_with fail
    go_roundw
    case rel=>exact⟨k+1,min (p+1) lid,by simp[lid],by go_num,by omega,by unfold lid;omega,by unfold lid;omega,by simpa using HS.out,HA.out⟩
    case measure=>simp[intOf];omega
   |false=>
    have hr':0<=v/\v<(N:Int):=hr rfl;clear hr;obtain⟨y,rfl⟩:∃y:Nat,v=y:=⟨v.toNat,by omega⟩;obtain⟨ob,oo,oc',hoe,DW,d0⟩:=HO.out.2 y (by omega);cases hoe;have d1:=(hB.cell (p:=⟨ob,oo+y,none⟩) DW).trans d0;have hlv:=abS.out y (by omega);have i0:(0:Int)<=(y:Int):=aF _;have i1:(y:Int)<(O.length:Int):=by omega
    have HA:Hid (Below w.heap.size w (wr.alloc (.cells #[.bool false,.int .i64 y] 121))):=HB.out.alloc hsz _;have d2:(wr.alloc (.cells #[.bool false,.int .i64 y] 121)).cell? ⟨ob,oo+y,none⟩=some (.int .i64 (O.getD y 0)):=by rw[dB _ _ _ (by show ob<wr.heap.size;omega)];exact d1
    simp only[dO,bN,Int.toNat_natCast]at HS;obtain⟨x,hx⟩:=af (O.getD y 0);rw[hx]at d2 hlv HS;clear hx hr' d0 d1 hB;by_cases hneg:x<0
    ·have HR:Hid (dA O l= -1):=by
      have:=HS.out;rw[au hneg]at this;exact this
     obtain rfl:x= -1:=hlv.2 hneg;clear hlv HS
     go_wp2_with fail
     go_ret;exact⟨by rw[HR.out];rfl,HA.out⟩
    ·have HX0:Hid (0<=x):=by show 0<=x;omega
     have hw:IntKind.i64.wrap (p+x)=p+x:=uE _ (by have:=hlv.1;unfold lid at this;omega);have e1:(x== -1)=false:=by simp;omega
     have HS2:Hid (dA O l=xD O l (k+1) (min (p+x) lid)):=by
      have:=HS.out;rw[aj hneg]at this;exact this
     clear HS hneg hlv
     go_wp2_with fail
     go_roundw
     case rel=>exact⟨k+1,min (p+x) lid,by simp[lid],by go_num,by omega,by have:=HX0.out;unfold lid;omega,by unfold lid;omega,HS2.out,HA.out⟩
     case measure=>simp[intOf];omega
  ·obtain rfl:k=l.length:=by omega
   have HR:Hid (dA O l=p):=by
    show dA O l=p;rw[hS];unfold xD;rw[List.drop_length];simp only[iY];omega
   clear hS hB
   go_wp2_with fail
   go_ret;exact⟨by rw[HR.out];rfl,HB.out⟩
theorem abT{T N:Nat}{R:List Ru}(h:aJ T N R=true):dD T N R:=by
 obtain⟨_,h1,_,_,h5⟩:=iD h
 have mem:∀r∈R,0<=r.1/\r.1<(N:Int)/\∀s∈r.2,0<=s.2/\s.2<if s.1 then (T:Int) else (N:Int):=λr hr=>by
  obtain⟨q,hq,rfl⟩:=kE hr;have e:R.getD q (0,[])=R[q]:=by simp[List.getD,hq]
  rw[<-e];exact⟨(h5 q hq).1,(h5 q hq).2.1,(h5 q hq).2.2.2⟩
 refine⟨λr hr=>⟨(mem r hr).1,(mem r hr).2.1⟩,λr hr s hs hb=> ?_,λr hr s hs hb=> ?_,h1⟩
 ·have:=(mem r hr).2.2 s hs;rw[hb]at this;simpa using this
 ·have:=(mem r hr).2.2 s hs;rw[hb]at this;simpa using this
theorem rq.abU{N:Nat}{R:List Ru}{O:List Int}(h:rq N R O)(i:Nat)(hi:i<N):O.getD i 0<=lid:=by
 by_cases h0:O.getD i 0<0
 ·unfold lid;omega
 ·exact(NY (h.some i hi (by omega))).2
structure xE(w w1:World)(N:Nat)(O:List Int)(wr:World):Prop where
 below:Below w1.heap.size w1 wr
 row:fO wr w1.heap.size w1.heap.size N O
theorem TL{w:World}{T N:Nat}{rv:Value}{R:List Ru}(hr:aG w w.heap.size rv R)(hm:aJ T N R=true):
 Calls Tryz.prog 21 #[.agg #[.int .i64 T,.int .i64 N,rv]] w λe w'=> ∃g O,e= .returned (.tuple #[.slice (some ⟨g,0,none⟩) N N,.int .i64 0])/\Below w.heap.size w w'/\fO w' w.heap.size g N O/\nM N R O:=by
 obtain⟨hT,hN1,hN,hRl,rz⟩:=iD hm;have HF:Hid (dD T N R):=abT hm;have HR:Hid (aG w w.heap.size rv R):=hr;have HQ:Hid (∀q,q<R.length->(R.getD q (0,[])).2.length<=8):=λq hq=>(rz q hq).2.2.1;obtain⟨ra,rc,aI⟩:=hr.1;subst aI;have may:=oD (T:=T) (N:=N) (hr.boxed (.cells #[.int .i64 T,.int .i64 N,.slice ra R.length rc] 27));rw[hm]at may;simp only[lU]at may;have Ap:=Tq N (by omega);clear hr hm rz
 go_enter Tryz.func21,Tryz.ntmps21
 go_wp2_with
  (go_at_call 18;refine may.mono ?_;rintro e w1 ⟨rfl,hB1⟩
   have b1:w1.cell? ⟨w.heap.size,1,none⟩=some (.int .i64 N):=(hB1.cell (by simp)).trans (by simp[go_sem]);have b2:w1.cell? ⟨w.heap.size,2,none⟩=some (.slice ra R.length rc):=(hB1.cell (by simp)).trans (by simp[go_sem]);have hs1:w.heap.size+1<=w1.heap.size:=by have:=hB1.size;simpa using this
   have HX:Hid (Below w.heap.size w w1):=((ai _ _).alloc (ah _) _).trans (hB1.mono (by simp))
   clear hB1 may)
 have TM:Hid (xE w w1 N (List.replicate N 0) (w1.alloc (.cells (madeCells #[.int .i64 0] N) 3))):=⟨(ai _ _).alloc (ah _) _,Tt w1 (by unfold maxLen;omega)⟩
 have vI:Hid (∀wr,Below w1.heap.size w1 wr->Below w.heap.size w wr/\wr.cell? ⟨w.heap.size,1,none⟩=some (.int .i64 N)/\wr.cell? ⟨w.heap.size,2,none⟩=some (.slice ra R.length rc)/\w1.heap.size<=wr.heap.size):=λwr hB=>
  ⟨HX.out.trans (hB.mono (by omega)),(hB.cell (by simp;omega)).trans b1,(hB.cell (by simp;omega)).trans b2,hB.size⟩
 clear Ap b1 b2
 go_loopw [16] (λs wr=> ∃k:Nat,s= .int .i64 k/\k<=N/\xE w w1 N (List.replicate k (-1)++List.replicate (N-k) 0) wr) (λs _=>N-(intOf s).toNat)
 case atStart=>exact⟨0,rfl,aP _,by simpa using TM.out⟩
 case round=>
  clear TM;obtain⟨k,rfl,hk,hS⟩:=hrel;have HS:Hid (xE w w1 N (List.replicate k (-1)++List.replicate (N-k) 0) wr):=hS;by_cases hlt:k<N
  ·obtain⟨c1,c2⟩:=hS.row.cell hlt
   have i0:(0:Int)<=(k:Int):=aF _;have i1:(k:Int)<(N:Int):=by omega
   have HE:Hid ((List.replicate k (-1:Int)++List.replicate (N-k) 0).set k (-1)=List.replicate (k+1) (-1)++List.replicate (N-(k+1)) 0):=by
    show (List.replicate k (-1:Int)++List.replicate (N-k) 0).set k (-1)=_;obtain⟨d,hd⟩:∃d,N-k=d+1:=⟨N-k-1,by omega⟩;rw[hd,show N-(k+1)=d by omega,yI _ _ (by simp),List.length_replicate,wW,List.replicate_succ (n:=d),List.set_cons_zero,List.replicate_succ' (n:=k)];simp
   obtain⟨x,hx⟩:=af ((List.replicate k (-1:Int)++List.replicate (N-k) 0).getD k 0);rw[hx]at c1;clear hS hx
   go_wp2_with fail
   go_roundw
   case rel=>exact⟨k+1,by go_num,by omega,HS.out.below.setCell (by simp) _,by rw[<-HE.out];exact HS.out.row.set k (-1)⟩
   case measure=>simp[intOf];omega
  ·obtain rfl:k=N:=by omega
   have h1:xE w w1 k (List.replicate k (-1)) wr:=by simpa using hS
   have uJ:Hid (xE w w1 k (List.replicate k (-1)) wr):=h1;obtain⟨_,b1,b2,_⟩:=vI.out wr h1.below;clear hS HS h1
   go_wp2_with fail
   clear b1 b2
   go_loopw [25] (λs wq=> ∃(m:Nat) (O:List Int),s= .int .i64 m/\m<=k/\rq k R O/\vH R m O/\xE w w1 k O wq) (λs _=>k-(intOf s).toNat)
   case atStart=>exact⟨0,List.replicate k (-1),rfl,aP _,(TI k R).1,(TI k R).2,uJ.out⟩
   case round=>
    clear uJ;obtain⟨m,O,rfl,hm,yS,TN,hS⟩:=hrel;have N8:Hid (rq k R O):=yS;have TP:Hid (vH R m O):=TN;have HS:Hid (xE w w1 k O wr):=hS;obtain⟨_,_,b2,_⟩:=vI.out wr hS.below;clear yS TN hS;by_cases hlt2:m<k
    ·go_wp2_with fail
     clear b2
     go_loopw [30] (λs wq=> ∃j:Nat,s= .int .i64 j/\j<=R.length/\rq k R (bf j (pR R) O)/\xE w w1 k (bf j (pR R) O) wq) (λs _=>R.length-(intOf s).toNat)
     case atStart=>exact⟨0,rfl,aP _,N8.out,HS.out⟩
     case round=>
      clear HS;obtain⟨j,rfl,hj,yS,hS⟩:=hrel;by_cases hlt3:j<R.length
      ·have hstep:bf (j+1) (pR R) O=pR R j (bf j (pR R) O):=rfl
       have hnext:=(TH HF.out yS hlt3).1;rw[<-hstep]at hnext;obtain⟨P,hP⟩:=af (bf j (pR R) O);rw[hP]at hstep yS hS;have Gg:Hid (rq k R (bf (j+1) (pR R) O)):=hnext;have HS:Hid (xE w w1 k P wr):=hS;have hmem:R.getD j (0,[])∈R:=by simp[List.getD,hlt3]
       have hL:=HF.out.left _ hmem;have hin:=HF.out.name _ hmem;have h8:=HQ.out j hlt3;obtain⟨hBw,_,_,hsz⟩:=vI.out wr hS.below;obtain⟨rb,ro,rc',qa,qc,hv,hb,k1,k2,hqc,k3⟩:=(HR.out.below hBw).2 j hlt3;cases hv;unfold pR at hstep;obtain⟨⟨L,Rt⟩,hre⟩:=af (R.getD j (0,[]));rw[hre]at k1 k2 k3 hqc hL hin h8 hstep;simp only at k1 k2 k3 hqc hL hin h8 hstep;obtain⟨l,rfl⟩:∃l:Nat,L=l:=⟨L.toNat,by omega⟩;simp only[Int.toNat_natCast]at hstep;have Gh:l<k:=by omega
       have k2':wr.cell? ⟨rb,ro+j*2+1,none⟩=some (.slice qa Rt.length qc):=by rw[kF];exact k2
       obtain⟨c1,c2⟩:=hS.row.cell Gh;have hgl:=aQ wr _ c1;simp only at hgl;obtain⟨W,hW⟩:∃W,W=wr.alloc (.cells #[.int .i64 l,.slice qa Rt.length qc] 96):=⟨_,rfl⟩;have hBW:Below wr.heap.size wr W:=by rw[hW];exact(ai _ _).alloc (ah _) _
       have c1':W.cell? ⟨w1.heap.size,l,none⟩=some (.int .i64 (P.getD l 0)):=(hBW.cell (by simpa using hgl)).trans c1;have q0:W.cell? ⟨wr.heap.size,0,none⟩=some (.int .i64 l):=by rw[hW];simp[go_sem]
       have q1:W.cell? ⟨wr.heap.size,1,none⟩=some (.slice qa Rt.length qc):=by rw[hW];simp[go_sem]
       have Ke:fO W w1.heap.size w1.heap.size k P:=hS.row.below hBW;have hWs:wr.heap.size<W.heap.size:=by rw[hW];simp
       have hgW:w1.heap.size<W.heap.size:=by omega
       have hne:w1.heap.size≠wr.heap.size:=by omega
       have hne':wr.heap.size≠w1.heap.size:=by omega
       have i0:(0:Int)<=(j:Int):=aF _;have i1:(j:Int)<(R.length:Int):=by omega
       have i2:(0:Int)<=(l:Int):=aF _;have i3:(l:Int)<(k:Int):=by omega
       have call:=abR (w:=W.drew) (lim:=w.heap.size) (qc:=qc) (N:=k) (O:=P) (iy.below (w:=wr) k3 ((hBW.drew).mono (by omega))) (by show w.heap.size<=W.heap.size;omega) (show aY W.drew W.drew.heap.size _ P from Ke.list) Ke.len hin (λi hi=>yS.abU i hi) yS.neg h8;have mQ:Hid (bf (j+1) (pR R) O=P.set l (jR (P.getD l 0) (dA P Rt))):=hstep;have Gi:Hid (fO W w1.heap.size w1.heap.size k P):=Ke;have DX:Hid (Below wr.heap.size wr W):=hBW;obtain⟨x,hx⟩:=af (P.getD l 0);obtain⟨y,hy⟩:=af (dA P Rt);rw[hx]at c1' mQ;rw[hy]at mQ call;clear hx hy hstep hre hP hnext k3 hqc hin hmem hBw Ke c1 hS yS h8 k2 hBW
       go_upto_region 14 with fail
       rw[<-hW];clear hW;refine aa8 11 14 (λw'=>w'.cell? ⟨wr.heap.size,0,none⟩=some (.int .i64 l)/\w'.cell? ⟨wr.heap.size,1,none⟩=some (.slice qa Rt.length qc)/\w'.cell? ⟨w1.heap.size,l,none⟩=some (.int .i64 x)) (by kernel_rfl) (by kernel_rfl) ⟨q0,q1,c1'⟩ ?_;simp only[List.take_succ_cons,List.take_zero,qP,om]
       iterate 11
        refine xu.cons (v:= ?_) (by rfl) ?_ ?_;rotate_left
        ·intro w' hSw
         obtain⟨s0,s1,s2⟩:=hSw
         go_simp
         try with_reducible rfl
        simp only[Act.put,eB,List.set_cons_zero,List.set_cons_succ]
       rw[xu,yM];intro K hK
       go_simp
       go_wp2_with
        (go_at_call 49;refine call.mono ?_;rintro e w2 ⟨rfl,hB2⟩
         have d3:=(hB2.cell (p:=⟨wr.heap.size,1,none⟩) hWs).trans q1;have d0:=(hB2.cell (p:=⟨wr.heap.size,0,none⟩) hWs).trans q0;have d1:=(hB2.cell (p:=⟨w1.heap.size,l,none⟩) hgW).trans c1';have N9:fO w2 w1.heap.size w1.heap.size k P:=fO.below (w:=W.drew) Gi.out hB2;have d2:=(N9.cell Gh).2;have HB2:Hid (Below w1.heap.size w1 w2):=HS.out.below.trans ((DX.out.trans (((ai _ _).drew.trans hB2).mono (by show wr.heap.size<=W.heap.size;omega))).mono hsz);have HR2:Hid (fO w2 w1.heap.size w1.heap.size k P):=N9
         clear hB2 N9)
       refine hK.out _ _ (λ_=>⟨d0,d3,d1⟩) ?_;clear hK;rw[yM];intro K hK
       go_simp
       go_wp2_with (go_at_call 48;refine abP.mono ?_;rintro e w3 ⟨rfl,rfl⟩)
       refine hK.out _ _ (λ_=>⟨d0,d3,d1⟩) ?_;clear hK;rw[yM];intro K hK
       go_simp
       refine hK.out _ _ (λ_=>⟨d0,d3,d1⟩) ?_;clear hK;rw[yM];intro K hK
       go_simp
       refine hK.out _ _ (λh=>absurd h (by omega)) ?_;clear hK;rw[yM];refine NoPanic.normal ?_
       go_wp2_with fail
       go_roundw
       case rel=>exact⟨j+1,by go_num,by omega,Gg.out,HB2.out.setCell (by simp) _,by rw[mQ.out];exact HR2.out.set l _⟩
       case measure=>simp[intOf];omega
      ·obtain rfl:j=R.length:=by omega
       have HS2:Hid (xE w w1 k (Gb R O) wr):=hS;have TQ:Hid (rq k R (Gb R O)/\vH R (m+1) (Gb R O)):=abN HF.out N8.out TP.out;clear hS yS
       go_wp2_with fail
       go_roundw
       case rel=>exact⟨m+1,_,by go_num,by omega,TQ.out.1,TQ.out.2,HS2.out⟩
       case measure=>simp[intOf];omega
    ·obtain rfl:m=k:=by omega
     have HD:Hid (nM m R O):=abO HF.out N8.out TP.out;have lF:Hid (Below w.heap.size w wr):=(vI.out wr HS.out.below).1
     go_wp2_with fail
     refine aH (v:= .tuple #[.slice (some ⟨w1.heap.size,0,none⟩) m m,.int .i64 0]) (by simp[results,Tryz.results21,go_sem]) rfl ⟨w1.heap.size,O,rfl,lF.out,HS.out.row.mono (by omega),HD.out⟩
end Go.Proofs.YthbifaoaiggooaaGreatDoor
