import Derived.Lib.ItoaNum
import Derived.Test.YtblkkhfdeaaidaaGreatDoorTxPaAndLfp
import Derived.Test.YtblkkhfdeaaidaaGreatDoorShortMathAndTxPut
import Derived.Test.YtblkkhfdeaaidaaGreatDoorTxRlsAndMayG
import Derived.Test.YtblkkhfdeaaidaaGreatDoorHeldAnyAndTxLn
import Derived.Test.YtblkkhfdeaaidaaGreatDoorMathAndTxSc
set_option maxHeartbeats 6400000
set_option maxRecDepth 100000
namespace Go.Proofs.YtblkkhfdeaaidaaGreatDoor
def lC(s:Sy):List UInt8:=32::(if s.1 then 116 else 110)::Lib.decDigits s.2.toNat
def qw(n:Int):List UInt8:=110::(Lib.decDigits n.toNat++[58])
def nQ(r:Ru):List UInt8:=qw r.1++((r.2.map lC).flatten++[10])
def tq(T N:Nat):List UInt8:=[116,101,114,109,115,32]++(Lib.decDigits T++([32,110,97,109,101,115,32]++(Lib.decDigits N++[10])))
def oP(T N:Nat)(R:List Ru):List UInt8:=tq T N++(R.map nQ).flatten
theorem CF{α:Type}{l:List α}{j:Nat}{d:α}(h:j<l.length):l.getD j d=l[j]:=by simp[List.getD,h]
theorem Pj{n:Nat}(h:n<10):Lib.decDigits n=[UInt8.ofNat (48+n)]:=by rw[Lib.decDigits,dif_pos h]
theorem Yl{n:Nat}(h:¬n<10):Lib.decDigits n=Lib.decDigits (n/10)++[UInt8.ofNat (48+n%10)]:=by rw[Lib.decDigits,dif_neg h]
theorem wL{n:Nat}(h:n<100):(Lib.decDigits n).length<=2:=by
 by_cases h1:n<10
 ·rw[Pj h1];simp
 ·rw[Yl h1,Pj (by omega)];simp
theorem Ym{s:Sy}(h:s.2.toNat<100):(lC s).length<=4:=by
 have:=wL h;simp only[lC,List.length_cons];omega
theorem FK{α:Type}(f:α->List UInt8)(m:Nat):∀(l:List α),(∀x∈l,(f x).length<=m)->(l.map f).flatten.length<=l.length*m
 | [],_=>by simp
 |x::l,h=>by
  have h1:=h x (List.mem_cons_self ..);have h2:=FK f m l fun y hy=>h y (List.mem_cons_of_mem _ hy);rw[List.map_cons,List.flatten_cons,List.length_append,List.length_cons,Nat.add_mul];omega
structure Low(T N:Nat)(R:List Ru):Prop where
 t:T<100
 n:N<100
 r:R.length<=40
 left:∀k,k<R.length->∃m:Nat,(R.getD k (0,[])).1=m/\m<100
 len:∀k,k<R.length->(R.getD k (0,[])).2.length<=8
 sym:∀k,k<R.length->∀j,j<(R.getD k (0,[])).2.length->∃m:Nat,((R.getD k (0,[])).2.getD j (false,0)).2=m/\m<100
theorem JY{T N:Nat}{R:List Ru}(hm:aD T N R=true):Low T N R:=by
 obtain⟨h1,h2,h3,h4,h5⟩:=fV hm;refine⟨by omega,by omega,h4,fun k hk=> ?_,fun k hk=>(h5 k hk).2.2.1,fun k hk j hj=> ?_⟩
 ·obtain⟨a,b,_⟩:=h5 k hk
  exact⟨(R.getD k (0,[])).1.toNat,by omega,by omega⟩
 ·have hmem:(R.getD k (0,[])).2.getD j (false,0)∈(R.getD k (0,[])).2:=by rw[CF hj];exact List.getElem_mem hj
  obtain⟨a,b⟩:=(h5 k hk).2.2.2 _ hmem;refine⟨((R.getD k (0,[])).2.getD j (false,0)).2.toNat,by omega,?_⟩;split at b<;>omega
section
variable{T N:Nat}{R:List Ru}
theorem Low.jV(h:Low T N R){k:Nat}(hk:k<R.length):∀s∈(R.getD k (0,[])).2,(lC s).length<=4:=fun s hs=>by
 obtain⟨j,hj,rfl⟩:=List.getElem_of_mem hs;obtain⟨m,h1,h2⟩:=h.sym k hk j hj;rw[CF hj]at h1;exact Ym (by omega)
theorem Low.Pk(h:Low T N R){k:Nat}(hk:k<R.length):(qw (R.getD k (0,[])).1).length<=4:=by
 obtain⟨m,h1,h2⟩:=h.left k hk;have:=wL h2;rw[h1];simp only[qw,List.length_cons,List.length_append,List.length_nil,Int.toNat_natCast];omega
theorem Low.Yn(h:Low T N R){k:Nat}(hk:k<R.length):(nQ (R.getD k (0,[]))).length<=40:=by
 have h1:=h.Pk hk;have h2:=FK lC 4 (R.getD k (0,[])).2 (h.jV hk);have h3:=h.len k hk;simp only[nQ,List.length_append,List.length_cons,List.length_nil];omega
theorem JZ(h:Low T N R):(tq T N).length<=20:=by
 have h1:=wL h.t;have h2:=wL h.n;simp only[tq,List.length_append,List.length_cons,List.length_nil];omega
theorem Low.mem(h:Low T N R):∀r∈R,(nQ r).length<=40:=fun r hr=>by
 obtain⟨k,hk,rfl⟩:=List.getElem_of_mem hr;have:=h.Yn hk;rw[CF hk]at this;exact this
theorem Low.part(h:Low T N R)(k:Nat):(((R.take k).map nQ).flatten).length<=1600:=by
 have h1:=FK nQ 40 (R.take k) fun r hr=>h.mem r (List.mem_of_mem_take hr);have h2:=h.r;rw[List.length_take]at h1;have:min k R.length*40<=40*40:=Nat.mul_le_mul_right _ (by omega);omega
theorem Low.Yo(h:Low T N R){k:Nat}(hk:k<R.length)(j:Nat):((((R.getD k (0,[])).2.take j).map lC).flatten).length<=32:=by
 have h1:=FK lC 4 ((R.getD k (0,[])).2.take j) fun s hs=>h.jV hk s (List.mem_of_mem_take hs);have h2:=h.len k hk;rw[List.length_take]at h1;have:min j (R.getD k (0,[])).2.length*4<=8*4:=Nat.mul_le_mul_right _ (by omega);omega
end
theorem Pm{α:Type}(f:α->List UInt8){l:List α}{k:Nat}(hk:k<l.length):((l.take (k+1)).map f).flatten=((l.take k).map f).flatten++f l[k]:=by
 rw[List.take_succ_eq_append_getElem hk,List.map_append,List.flatten_append];simp
end Go.Proofs.YtblkkhfdeaaidaaGreatDoor
namespace Go.Proofs.YtblkkhfdeaaidaaGreatDoor
open Go.RowKit
def Pn(sz:Nat)(T N:Int)(ra:Option Addr)(rl rc:Nat)(wq:World):Prop:=
 wq.cell? ⟨sz,0,none⟩=some (.int .i64 T)/\wq.cell? ⟨sz,1,none⟩=some (.int .i64 N)/\wq.cell? ⟨sz,2,none⟩=some (.slice ra rl rc)
theorem Po(w:World):Lib.IsBuilderF 32 5 w.heap.size w.heap.size (Lib.byteCells []) (w.alloc (.cells #[.pointer none,.slice none 0 0] 32)):=
 .inl ⟨Nat.le_refl _,.slice none 0 0,heap_alloc_new w _,World.ownsRowF_of (World.ownsRow_nil _ _ _ _),by simp[Value.ownBlock]⟩
theorem Pp{T e B b:Nat}{bs:List Value}{w w':World}(h:Lib.IsBuilderF T e B b bs w)(hb:Below w.heap.size w w'):Lib.IsBuilderF T e B b bs w':=by
 have one:∀p,Lib.BuilderAtF T e B b p bs w->Lib.BuilderAtF T e B b p bs w':=fun p h=>by
  obtain⟨h1,v,h2,h3,h4⟩:=h;refine⟨h1,v,(hb.block _ (Array.getElem?_eq_some_iff.1 h2).1).trans h2,⟨h3.1,?_⟩,h4⟩;rcases h3.2 with h5|⟨g,cap,cur,fz,e1,e2,e3,e4⟩
  ·exact .inl h5
  ·exact .inr ⟨g,cap,cur,fz,e1,e2,(hb.block _ (Array.getElem?_eq_some_iff.1 e3).1).trans e3,e4⟩
 exact h.imp (one _) (one _)
theorem wM{T e B b:Nat}{bs:List Value}{w:World}(h:Lib.IsBuilderF T e B b bs w):b<w.heap.size:=by
 rcases h with⟨_,v,h,_⟩|⟨_,v,h,_⟩<;>exact(Array.getElem?_eq_some_iff.1 h).1
section
variable{w:World}{ra:Option Addr}{rc:Nat}{R:List Ru}
theorem Yp{T N:Nat}(hr:au w w.heap.size (.slice ra R.length rc) R)(hm:aD T N R=true):
 Calls Tryz.prog 33 #[.agg #[.int .i64 T,.int .i64 N,.slice ra R.length rc]] w fun e w'=>e= .returned (.tuple #[.string ⟨(oP T N R).toArray⟩,.int .i64 0])/\Below w.heap.size w w':=by
 obtain⟨W1,hW1⟩:∃W,w.alloc (.cells #[.int .i64 (T:Int),.int .i64 (N:Int),.slice ra R.length rc] 26)=W:=⟨_,rfl⟩;have hB1:Below w.heap.size w W1:=by rw[<-hW1];exact(Below.refl _ _).alloc (Nat.le_refl _) _
 have hx:=heap_alloc_new w (.cells #[.int .i64 (T:Int),.int .i64 (N:Int),.slice ra R.length rc] 26);rw[hW1]at hx;have g0:W1.cell? ⟨w.heap.size,0,none⟩=some (.int .i64 (T:Int)):=qY hx rfl;have g1:W1.cell? ⟨w.heap.size,1,none⟩=some (.int .i64 (N:Int)):=qY hx rfl;have g2:W1.cell? ⟨w.heap.size,2,none⟩=some (.slice ra R.length rc):=qY hx rfl;have hr1:au W1 W1.heap.size (.slice ra R.length rc) R:=(hr.below hB1).mono hB1.size;have may:=lm (w:=W1) (T:=T) (N:=N) hr1;rw[hm]at may;have qx:Hid (Low T N R):=JY hm;have HW1:Hid (Below w.heap.size w W1/\W1.heap[w.heap.size]?=some (.cells #[.int .i64 (T:Int),.int .i64 (N:Int),.slice ra R.length rc] 26 (0,0))/\au W1 W1.heap.size (.slice ra R.length rc) R):=⟨hB1,hx,hr1⟩;have hcf:∀args w,(callFunc 63 args).run Tryz.prog w= .ok (.enter 63 args) w:=fun args w=>by simp[callFunc,Tryz.func63,Tryz.f63 ]
 clear hr hm hB1 hx hr1
 go_enter Tryz.func33,Tryz.ntmps33
 go_upto_region 5 with(go_at_call 49;refine may.mono ?_;rintro e w2 ⟨rfl,hB2⟩;have HB2:Hid (Below W1.heap.size W1 w2):=hB2;clear may hB2 g0 g1 g2 hW1)
 obtain⟨b,hb⟩:∃x,w2.heap.size=x:=⟨_,rfl⟩;obtain⟨W3,hW3⟩:∃V,w2.alloc (.cells #[.pointer none,.slice none 0 0] 32)=V:=⟨_,rfl⟩;have hI0:=Po w2;rw[hW3,hb]at hI0;have Pq:Below b w2 W3:=by rw[<-hW3,<-hb];exact(Below.refl _ _).alloc (Nat.le_refl _) _
 have hz3:W3.heap.size=b+1:=by rw[<-hW3,<-hb];simp
 rw[hW3];rw[hb]
 have HG:Hid (∀wq,Below b W3 wq->Pn w.heap.size T N ra R.length rc wq/\au wq b (.slice ra R.length rc) R/\Below w.heap.size w wq):=fun wq hq=>by
  have h1:Below b w2 wq:=Pq.trans hq;have hs:W1.heap.size<=b:=by rw[<-hb];exact HB2.out.size
  have h2:Below W1.heap.size W1 wq:=HB2.out.trans (h1.mono hs);have hx:=(h2.block _ (Array.getElem?_eq_some_iff.1 HW1.out.2.1).1).trans HW1.out.2.1;exact⟨⟨qY hx rfl,qY hx rfl,qY hx rfl⟩,(HW1.out.2.2.below h2).mono hs,HW1.out.1.trans (h2.mono HW1.out.1.size)⟩
 have HI0:Hid (Lib.IsBuilderF 32 5 b b (Lib.byteCells []) W3/\W3.heap.size=b+1):=⟨hI0,hz3⟩;clear hI0 Pq hz3 hW3 hb;obtain⟨Wd,hWd⟩:∃V,W3.drew=V:=⟨_,rfl⟩;have hBd:Below b W3 Wd:=by rw[<-hWd];exact(Below.refl _ _).drew
 have Pt:Lib.IsBuilderF 32 5 b b (Lib.byteCells []) Wd:=by rw[<-hWd];exact HI0.out.1
 have hzd:Wd.heap.size=b+1:=by rw[<-hWd];exact HI0.out.2
 have S0:=(HG.out Wd hBd).1;have HD:Hid (Below b W3 Wd/\Lib.IsBuilderF 32 5 b b (Lib.byteCells []) Wd/\Wd.heap.size=b+1):=⟨hBd,Pt,hzd⟩;clear hBd Pt hzd;refine lY [0,1,2,4,5] 4 8 (Pn w.heap.size T N ra R.length rc) (by kernel_rfl) (by kernel_rfl) (by rw[hWd];exact S0) ?_;rw[hWd];clear hWd
 iterate 5
  refine aO.Ac (v:= ?_) rfl (by rfl) ?_ ?_;rotate_left
  ·intro w' hSw
   obtain⟨z0,z1,z2⟩:=hSw
   go_simp
   try with_reducible rfl
  simp only[Act.put,List.setIfInBounds_toArray,List.set_cons_zero,List.set_cons_succ]
 rw[aO];have CG:=Fj T qx.out.t Wd;refine ax.one (i:=3) (by kernel_rfl) ⟨_,rfl,fun K hK=> ?_⟩
 go_simp
 refine CG.mono ?_;rintro e w4 ⟨rfl,h4⟩;obtain rfl:Wd=w4:=h4.symm;dsimp only;refine hK.out _ _ (fun _=>S0) ?_;clear hK CG;have CJ:=Fj N qx.out.n Wd;refine ax.one (i:=6) (by kernel_rfl) ⟨_,rfl,fun K hK=> ?_⟩
 go_simp
 refine CJ.mono ?_;rintro e w4 ⟨rfl,h4⟩;obtain rfl:Wd=w4:=h4.symm;dsimp only;refine hK.out _ _ (fun _=>S0) ?_;clear hK CJ;have yI:Below b Wd (Wd.alloc (.cells (kK [[116,101,114,109,115,32],Lib.decDigits T,[32,110,97,109,101,115,32],Lib.decDigits N,[10]]).toArray 9)):=(Below.refl _ _).alloc (by have:=HD.out.2.2;omega) _;have pu:=FJ (w:=Wd.alloc (.cells (kK [[116,101,114,109,115,32],Lib.decDigits T,[32,110,97,109,101,115,32],Lib.decDigits N,[10]]).toArray 9)) (B:=b) (b:=b) (sb:=Wd.heap.size) (S:=[[116,101,114,109,115,32],Lib.decDigits T,[32,110,97,109,101,115,32],Lib.decDigits N,[10]]) (acc:=[]) (HD.out.2.1.alloc _) (heap_alloc_new _ _) (by have:=HD.out.2.2;omega) (by have:=HD.out.2.2;simp;omega) (by have h1:=wL qx.out.t;have h2:=wL qx.out.n;simp;omega) (by simp);have hS1:=(HG.out _ (HD.out.1.trans yI)).1;simp only[kK,List.map_cons,List.map_nil]at yI pu hS1;refine ax.one (i:=7) (by kernel_rfl) ⟨_,rfl,fun K hK=> ?_⟩
 go_simp
 refine hK.out _ _ (fun _=>hS1) ?_;clear hK;refine ax.last (i:=8) (by kernel_rfl) ⟨_,rfl,fun K hK=> ?_⟩
 go_simp
 refine pu.mono ?_;rintro e w5 ⟨rfl,Pv,ak,-⟩;dsimp only;refine hK.out _ _ (fun h=>absurd h (by omega)) (NoPanic.normal ?_);clear hK pu
 have yJ:Hid (Lib.IsBuilderF 32 5 b b (Lib.byteCells (tq T N)) w5/\Below b W3 w5):=by
  refine⟨?_,HD.out.1.trans (yI.trans ak)⟩;have e:[]++[[116,101,114,109,115,32],Lib.decDigits T,[32,110,97,109,101,115,32],Lib.decDigits N,[10]].flatten=tq T N:=by simp[tq]
  rw[<-e];exact Pv
 obtain⟨z0,z1,z2⟩:=(HG.out w5 yJ.out.2).1;clear Pv ak yI hS1 S0 HD HI0
 go_wp2_with fail
 clear z0 z1 z2
 go_loopw [26] (fun Yq wr=> ∃k:Nat,Yq= .int .i64 k/\k<=R.length/\Lib.IsBuilderF 32 5 b b (Lib.byteCells (tq T N++((R.take k).map nQ).flatten)) wr/\Below b W3 wr/\b<wr.heap.size) (fun s _=>R.length-(intOf s).toNat)
 case atStart=>
  refine⟨0,rfl,Nat.zero_le _,?_,yJ.out.2,?_⟩
  ·rw[List.take_zero,List.map_nil,List.flatten_nil,List.append_nil];exact yJ.out.1
  ·exact wM yJ.out.1
 case round=>
  clear yJ;obtain⟨k,rfl,hk,hI,hB,hlb⟩:=hrel;have afJ:=qx.out.r;obtain⟨wo,hwo⟩:∃x,x=wr:=⟨_,rfl⟩;subst hwo;have HR:Hid (Lib.IsBuilderF 32 5 b b (Lib.byteCells (tq T N++((R.take k).map nQ).flatten)) wo/\Below b W3 wo/\b<wo.heap.size):=⟨hI,hB,hlb⟩;clear hI hB hlb;by_cases hlt:k<R.length
  ·obtain⟨b0,o0,qy,qa,qc,hv,-,k1,k2',-,hsy⟩:=(HG.out wo HR.out.2.1).2.1.2 k hlt
   have k2:wo.cell? ⟨b0,o0+k*2+1,none⟩=some (.slice qa (R.getD k (0,[])).2.length qc):=k2';clear k2';injection hv with hv1 _ hv3;subst hv1;subst hv3;have hstep:=Pm nQ hlt;rw[<-CF (d:=(0,[])) hlt]at hstep;have hpl:=qx.out.part k;have Yr:=JZ qx.out;have hll:=qx.out.Pk hlt;have hsl:=fun j=>qx.out.Yo hlt j;have hsm:=qx.out.sym k hlt;have hsn:=qx.out.len k hlt;obtain⟨m,hm,hm1⟩:=qx.out.left k hlt;obtain⟨⟨L,l⟩,hx⟩:∃x,R.getD k (0,[])=x:=⟨_,rfl⟩;rw[hx]at k1 k2 hsy hstep hll hsl hsm hsn hm;simp only at k1 k2 hsy hll hsl hsm hsn hm;subst hm;obtain⟨acc,hacc⟩:∃a,tq T N++((R.take k).map nQ).flatten=a:=⟨_,rfl⟩;have hal:acc.length<=1700:=by rw[<-hacc,List.length_append];omega
   rw[hacc]at HR;have HLen:Hid (acc.length<=1700/\(qw (m:Int)).length<=4):=⟨hal,hll⟩
   have jU:Hid (tq T N++((R.take (k+1)).map nQ).flatten=acc++nQ ((m:Int),l)):=by
    show _=_;rw[hstep,<-List.append_assoc,hacc]
   obtain⟨W8,Ae⟩:∃V,wo.alloc (.cells #[.int .i64 (m:Int),.slice qa l.length qc] 91)=V:=⟨_,rfl⟩;have mq:Below b wo W8:=by rw[<-Ae];exact(Below.refl _ _).alloc (Nat.le_of_lt HR.out.2.2) _
   have wN:Lib.IsBuilderF 32 5 b b (Lib.byteCells acc) W8:=by rw[<-Ae];exact HR.out.1.alloc _
   have CK:=heap_alloc_new wo (.cells #[.int .i64 (m:Int),.slice qa l.length qc] 91);rw[Ae]at CK;obtain⟨rb,hrb⟩:∃x,wo.heap.size=x:=⟨_,rfl⟩;have Yt:W8.heap.size=rb+1:=by rw[<-Ae,<-hrb];simp
   rw[hrb]at CK;have c0:W8.cell? ⟨rb,0,none⟩=some (.int .i64 (m:Int)):=qY CK rfl;have Pw:b<rb:=by rw[<-hrb];exact HR.out.2.2
   have CG:=Fj m hm1 W8;have pu:=FJ (w:=W8.alloc (.cells (kK [[110],Lib.decDigits m,[58]]).toArray 9)) (B:=b) (b:=b) (sb:=W8.heap.size) (S:=[[110],Lib.decDigits m,[58]]) (acc:=acc) (wN.alloc _) (heap_alloc_new _ _) (by omega) (by simp;omega) (by have h1:=wL hm1;simp;omega) (by simp);have uI:Below b W8 (W8.alloc (.cells (kK [[110],Lib.decDigits m,[58]]).toArray 9)):=(Below.refl _ _).alloc (by omega) _;have qR:(W8.alloc (.cells (kK [[110],Lib.decDigits m,[58]]).toArray 9)).heap[rb]?=some (.cells #[.int .i64 (m:Int),.slice qa l.length qc] 91 (0,0)):=(heap_alloc_old W8 _ (by omega)).trans CK;simp only[kK,List.map_cons,List.map_nil]at pu uI qR;have nI:Hid (Below b wo W8/\Below b W8 (W8.alloc (.cells #[.string ⟨[110].toArray⟩,.string ⟨(Lib.decDigits m).toArray⟩,.string ⟨[58].toArray⟩] 9))/\(W8.alloc (.cells #[.string ⟨[110].toArray⟩,.string ⟨(Lib.decDigits m).toArray⟩,.string ⟨[58].toArray⟩] 9)).heap[rb]?=some (.cells #[.int .i64 (m:Int),.slice qa l.length qc] 91 (0,0))/\b<rb):=⟨mq,uI,qR,Pw⟩
   have jH:Hid (∀wq,Below b wo wq->∀j,j<l.length->∃b' o',qa=some ⟨b',o',none⟩/\wq.cell? ⟨b',o'+j*2,none⟩=some (.bool (l.getD j (false,0)).1)/\wq.cell? ⟨b',o'+j*2+1,none⟩=some (.int .i64 (l.getD j (false,0)).2)):=fun wq hq j hj=>by
    obtain⟨b',o',h1,h2,h3,h4⟩:=hsy j hj;exact⟨b',o',h1,(hq.cell h2).trans h3,(hq.cell h2).trans h4⟩
   have J2:Hid (wo.alloc (.cells #[.int .i64 (m:Int),.slice qa l.length qc] 91)=W8/\wo.heap.size=rb):=⟨Ae,hrb⟩;have i0:(0:Int)<=(k:Int):=Int.natCast_nonneg _;have i1:(k:Int)<(R.length:Int):=by omega
   clear hsy hstep hpl Yr hll hx hacc mq wN CK Yt Pw uI qR Ae hrb
   go_upto_region 9 with fail
   rw[J2.out.1];rw[J2.out.2]
   go_wp2_with
    (first
     |(go_at_call 55;refine CG.mono ?_;rintro e w9 ⟨rfl,h9⟩;obtain rfl:W8=w9:=h9.symm;clear CG)
     |(go_at_call 63;refine pu.mono ?_;rintro e w9 ⟨rfl,Px,uI,Py⟩
       have qR:=Py rb _ nI.out.2.2.1 (fun e=>by have:=nI.out.2.2.2;have:=Option.some.inj e;omega) (fun _ _ e=>by cases e);have c1:w9.cell? ⟨rb,1,none⟩=some (.slice qa l.length qc):=qY qR rfl
       have J3:Hid (Lib.IsBuilderF 32 5 b b (Lib.byteCells (acc++qw (m:Int))) w9/\Below b wo w9/\b<w9.heap.size):=by
        refine⟨?_,nI.out.1.trans (nI.out.2.1.trans uI),?_⟩
        ·have e:acc++[[110],Lib.decDigits m,[58]].flatten=acc++qw (m:Int):=by simp[qw]
         rw[<-e];exact Px
        ·have:=(Array.getElem?_eq_some_iff.1 qR).1
         have:=nI.out.2.2.2;omega
       clear pu Px uI Py qR))
   clear c1 c0 k1 k2
   go_loopw [39] (fun Yu wq=> ∃j:Nat,Yu= .int .i64 j/\j<=l.length/\Lib.IsBuilderF 32 5 b b (Lib.byteCells (acc++qw (m:Int)++((l.take j).map lC).flatten)) wq/\Below b wo wq/\b<wq.heap.size) (fun s _=>l.length-(intOf s).toNat)
   case atStart=>
    refine⟨0,rfl,Nat.zero_le _,?_,J3.out.2⟩;rw[List.take_zero,List.map_nil,List.flatten_nil,List.append_nil];exact J3.out.1
   case round=>
    clear J3 nI J2;obtain⟨j,rfl,hj,Pz,mr,hlq⟩:=hrel;have HQ:Hid (Lib.IsBuilderF 32 5 b b (Lib.byteCells (acc++qw (m:Int)++((l.take j).map lC).flatten)) wr/\Below b wo wr/\b<wr.heap.size):=⟨Pz,mr,hlq⟩;clear Pz mr hlq;by_cases hjl:j<l.length
    ·obtain⟨b1,o1,oO,d1,d2⟩:=jH.out wr HQ.out.2.1 j hjl
     subst oO;obtain⟨v,hv,hv1⟩:=hsm j hjl;have hnx:=Pm lC hjl;rw[<-CF (d:=(false,0)) hjl]at hnx;have hle:=hsl j;have hle2:=hsl (j+1);obtain⟨⟨t,v'⟩,hx⟩:∃x,l.getD j (false,0)=x:=⟨_,rfl⟩;rw[hx]at d1 d2 hv hnx;simp only at d1 d2 hv;subst hv;obtain⟨mD,uR⟩:∃a,acc++qw (m:Int)++((l.take j).map lC).flatten=a:=⟨_,rfl⟩
     have Yv:mD.length<=2000:=by
      rw[<-uR,List.length_append,List.length_append];have:=HLen.out;omega
     have Cy:Hid (acc++qw (m:Int)++((l.take (j+1)).map lC).flatten=mD++lC (t,(v:Int))):=by
      show _=_;rw[hnx,<-List.append_assoc,uR]
     rw[uR]at HQ;obtain⟨Ws,hWs⟩:∃V,wr.alloc (.cells #[.bool t,.int .i64 (v:Int)] 116)=V:=⟨_,rfl⟩;have yI:Below b wr Ws:=by rw[<-hWs];exact(Below.refl _ _).alloc (Nat.le_of_lt HQ.out.2.2) _
     have hIs:Lib.IsBuilderF 32 5 b b (Lib.byteCells mD) Ws:=by rw[<-hWs];exact HQ.out.1.alloc _
     have hxs:=heap_alloc_new wr (.cells #[.bool t,.int .i64 (v:Int)] 116);rw[hWs]at hxs;obtain⟨p9,CO⟩:∃x,wr.heap.size=x:=⟨_,rfl⟩;have hzs:Ws.heap.size=p9+1:=by rw[<-hWs,<-CO];simp
     rw[CO]at hxs;have PD:b<p9:=by rw[<-CO];exact HQ.out.2.2
     have PE:Hid (wr.alloc (.cells #[.bool t,.int .i64 (v:Int)] 116)=Ws/\wr.heap.size=p9):=⟨hWs,CO⟩;have HS:Hid (Below b wr Ws/\Lib.IsBuilderF 32 5 b b (Lib.byteCells mD) Ws/\Ws.heap[p9]?=some (.cells #[.bool t,.int .i64 (v:Int)] 116 (0,0))/\b<p9/\Ws.heap.size=p9+1):=⟨yI,hIs,hxs,PD,hzs⟩;have i2:(0:Int)<=(j:Int):=Int.natCast_nonneg _;have i3:(j:Int)<(l.length:Int):=by omega
     clear hnx hle hle2 hx uR hWs yI hIs hxs CO hzs PD
     go_upto_region 13 with fail
     rw[PE.out.1];rw[PE.out.2];clear d1 d2;obtain⟨qZ,Af⟩:∃V,Ws.drew=V:=⟨_,rfl⟩;have FL:Below Ws.heap.size Ws qZ:=by rw[<-Af];exact(Below.refl _ _).drew
     have hI2:Lib.IsBuilderF 32 5 b b (Lib.byteCells mD) qZ:=by rw[<-Af];exact HS.out.2.1
     have hz2:qZ.heap.size=p9+1:=by rw[<-Af];exact HS.out.2.2.2.2
     have HSc:Hid (∀wq,Below qZ.heap.size qZ wq->wq.cell? ⟨p9,0,none⟩=some (.bool t)/\wq.cell? ⟨p9,1,none⟩=some (.int .i64 (v:Int))):=fun wq hq=>by
      have h1:Below Ws.heap.size Ws wq:=FL.trans (hq.mono FL.size);have hx:=(h1.block _ (Array.getElem?_eq_some_iff.1 HS.out.2.2.1).1).trans HS.out.2.2.1;exact⟨qY hx rfl,qY hx rfl⟩
     have S1:=HSc.out qZ (Below.refl _ _);have HD2:Hid (Below b wr qZ/\Lib.IsBuilderF 32 5 b b (Lib.byteCells mD) qZ/\qZ.heap.size=p9+1):=⟨HS.out.1.trans (FL.mono (by have:=HS.out.2.2.2;omega)),hI2,hz2⟩;have mk:=Yk (w:=qZ) (t:=t) (v:=(v:Int));clear FL hI2 hz2;refine lY [0,1,3,4] 4 7 (fun wq=>wq.cell? ⟨p9,0,none⟩=some (.bool t)/\wq.cell? ⟨p9,1,none⟩=some (.int .i64 (v:Int))) (by kernel_rfl) (by kernel_rfl) (by rw[Af];exact S1) ?_;rw[Af];clear Af S1
     iterate 4
      refine aO.Ac (v:= ?_) rfl (by rfl) ?_ ?_;rotate_left
      ·intro w' hSw
       obtain⟨z0,z1⟩:=hSw
       go_simp
       try with_reducible rfl
      simp only[Act.put,List.setIfInBounds_toArray,List.set_cons_zero,List.set_cons_succ]
     rw[aO];refine ax.one (i:=2) (by kernel_rfl) ⟨_,rfl,fun K hK=> ?_⟩
     go_simp
     refine mk.mono ?_;rintro e w6 ⟨rfl,aQ⟩;dsimp only;refine hK.out _ _ (fun _=>HSc.out w6 aQ) ?_;clear hK mk;have CJ:=Fj v hv1 w6;refine ax.one (i:=5) (by kernel_rfl) ⟨_,rfl,fun K hK=> ?_⟩
     go_simp
     refine CJ.mono ?_;rintro e w7 ⟨rfl,h7⟩;obtain rfl:w6=w7:=h7.symm;dsimp only;refine hK.out _ _ (fun _=>HSc.out w6 aQ) ?_;clear hK CJ;have PG:Lib.IsBuilderF 32 5 b b (Lib.byteCells mD) w6:=Pp HD2.out.2.1 aQ;have PI:Below b qZ w6:=aQ.mono (by have:=HD2.out.2.2;have:=HS.out.2.2.2;omega);have oM:p9+1<=w6.heap.size:=by have:=aQ.size;have:=HD2.out.2.2;omega
     have J4:=FJ (w:=w6.alloc (.cells (kK [[32],[if t then 116 else 110],Lib.decDigits v]).toArray 9)) (B:=b) (b:=b) (sb:=w6.heap.size) (S:=[[32],[if t then 116 else 110],Lib.decDigits v]) (acc:=mD) (PG.alloc _) (heap_alloc_new _ _) (by have:=HS.out.2.2.2;omega) (by have:=HS.out.2.2.2;simp;omega) (by have h1:=wL hv1;simp;omega) (by simp);have hBa:Below b w6 (w6.alloc (.cells (kK [[32],[if t then 116 else 110],Lib.decDigits v]).toArray 9)):=(Below.refl _ _).alloc (by have:=HS.out.2.2.2;omega) _;have J5:=HSc.out _ (aQ.alloc aQ.size (.cells (kK [[32],[if t then 116 else 110],Lib.decDigits v]).toArray 9));simp only[kK,List.map_cons,List.map_nil]at J4 hBa J5;refine ax.one (i:=6) (by kernel_rfl) ⟨_,rfl,fun K hK=> ?_⟩
     go_simp
     refine hK.out _ _ (fun _=>J5) ?_;clear hK;refine ax.last (i:=7) (by kernel_rfl) ⟨_,rfl,fun K hK=> ?_⟩
     go_simp
     refine J4.mono ?_;rintro e w8 ⟨rfl,wN,mq,-⟩;dsimp only;refine hK.out _ _ (fun h=>absurd h (by omega)) (NoPanic.normal ?_);clear hK J4
     have yK:Hid (Lib.IsBuilderF 32 5 b b (Lib.byteCells (mD++lC (t,(v:Int)))) w8/\Below b wo w8):=by
      refine⟨?_,HQ.out.2.1.trans (HD2.out.1.trans (PI.trans (hBa.trans mq)))⟩;have e:mD++[[32],[if t then 116 else 110],Lib.decDigits v].flatten=mD++lC (t,(v:Int)):=by simp[lC]
      rw[<-e];exact wN
     clear PG PI oM hBa J5 wN mq aQ HSc
     go_wp2_with fail
     go_roundw
     case rel=>
      refine⟨j+1,by go_num,by omega,?_,yK.out.2,wM yK.out.1⟩;rw[Cy.out];exact yK.out.1
     case measure=>simp[intOf];omega
    ·have hjj:j=l.length:=by omega
     have hI1:=HQ.out.1;rw[hjj,List.take_length]at hI1;obtain⟨mD,uR⟩:∃a,acc++qw (m:Int)++(l.map lC).flatten=a:=⟨_,rfl⟩
     have Yv:mD.length<=2000:=by
      rw[<-uR,List.length_append,List.length_append];have h1:=HLen.out;have h2:=hsl l.length;rw[List.take_length]at h2;omega
     rw[uR]at hI1
     have Yw:Hid (acc++nQ ((m:Int),l)=mD++[10]):=by
      show _=_;rw[<-uR];simp[nQ]
     have J6:=FJ (w:=wr.alloc (.cells (kK [[10]]).toArray 9)) (B:=b) (b:=b) (sb:=wr.heap.size) (S:=[[10]]) (acc:=mD) (hI1.alloc _) (heap_alloc_new _ _) (by have:=HQ.out.2.2;omega) (by have:=HQ.out.2.2;simp;omega) (by simp;omega) (by simp);have PK:Hid (Below b wr (wr.alloc (.cells (kK [[10]]).toArray 9))):=(Below.refl _ _).alloc (Nat.le_of_lt HQ.out.2.2) _;simp only[kK,List.map_cons,List.map_nil]at J6 PK;clear hjj uR hI1
     go_wp2_with
      (go_at_call 63;refine J6.mono ?_;rintro e w8 ⟨rfl,wN,mq,-⟩
       have yK:Hid (Lib.IsBuilderF 32 5 b b (Lib.byteCells (mD++[10])) w8/\Below b W3 w8):=⟨wN,HR.out.2.1.trans (HQ.out.2.1.trans (PK.out.trans mq))⟩
       clear J6 wN mq)
     go_roundw
     case rel=>
      refine⟨k+1,by go_num,by omega,?_,yK.out.2,wM yK.out.1⟩;rw[jU.out,Yw.out];exact yK.out.1
     case measure=>simp[intOf];omega
  ·have hkk:k=R.length:=by omega
   have hI1:=HR.out.1;rw[hkk,List.take_length]at hI1;have st:=NM b b (oP T N R) wo hI1 (Nat.le_of_lt HR.out.2.2);obtain⟨tx,htx⟩:∃z,(⟨(oP T N R).toArray⟩:ByteArray)=z:=⟨_,rfl⟩;rw[htx]at st;have Yx:Hid ((⟨(oP T N R).toArray⟩:ByteArray)=tx):=htx;clear hkk hI1 htx
   go_wp2_with
    (go_at_call 8;refine st.mono ?_;rintro e w8 ⟨rfl,-,mq,-⟩
     have CP:Hid (Below b W3 w8):=HR.out.2.1.trans mq
     clear st mq)
   refine bodyPost_ret (v:= .tuple #[.string tx,.int .i64 0]) (by simp[results,Tryz.results33,go_sem]) rfl ?_;exact⟨by rw[Yx.out],(HG.out w8 CP.out).2.2⟩
end
theorem PN{N:Nat}{R:List Ru}{O:List Int}(h:nN N R O):∀x∈O,fQ x:=by
 intro x hx;obtain⟨i,hi,rfl⟩:=List.getElem_of_mem hx;have hN:i<N:=by have:=h.len;omega
 have e:O[i]=O.getD i 0:=by simp[List.getD,hi]
 rw[e];unfold fQ;by_cases h0:O.getD i 0<0
 ·have:=(h.none i hN h0).1
  omega
 ·have:=(JR (h.some i hN (by omega)).1).2
  unfold lid at this;omega
section
variable{w w':World}{pb B G:Nat}{rv:Value}{p:bQ}
theorem Yy{x:Int}(hE:cB G w)(hG:G<=w.heap.size)(hx:fQ x):Calls Tryz.prog 29 #[.slice (some ⟨w.heap.size,0,none⟩) 1 1] (w.alloc (.cells #[.int .i64 x] 3)) fun e w'=>e= .returned (.string ⟨(jh [x]).toArray⟩)/\Below w.heap.size w w':=by
 have hb:Below w.heap.size w (w.alloc (.cells #[.int .i64 x] 3)):=(Below.refl _ _).alloc (Nat.le_refl _) _;exact(Cm (hE.below hb hG) (Nat.le_trans hG hb.size) (OT w x) (by simp) (fun y hy=>by rw[List.mem_singleton.1 hy];exact hx)).mono fun e w' ⟨h1,h2⟩=>⟨h1,hb.trans (h2.mono hb.size)⟩
theorem Yz(h:aZ w pb B rv p)(hE:cB G w)(hG:G<=pb)(hm:aD p.T p.N p.R=true):Calls Tryz.prog 19 #[.pointer (some ⟨pb,0,none⟩)] w fun e w'=>e= .returned (.string ⟨(jh [((oP p.T p.N p.R).length:Int)]).toArray⟩)/\Below w.heap.size w w':=by
 obtain⟨c0,c1,c2,-⟩:=h.cells;obtain⟨ra,rc,aG⟩:=h.rules.at.1;subst aG;have pr:=Yp (T:=p.T) (N:=p.N) h.rules.at hm
 have hlen:(oP p.T p.N p.R).length<=4611686018427387904:=by
  have hl:=JY hm;have h1:=JZ hl;have h2:=hl.part p.R.length;rw[List.take_length]at h2;unfold oP;rw[List.length_append];omega
 obtain⟨z,hz⟩:∃z,oP p.T p.N p.R=z:=⟨_,rfl⟩;rw[hz]at pr hlen⊢;have hpb:=h.below
 have HT:Hid (∀wq,Below w.heap.size w wq->Calls Tryz.prog 29 #[.slice (some ⟨wq.heap.size,0,none⟩) 1 1] (wq.alloc (.cells #[.int .i64 (z.length:Int)] 3)) fun e w'=>e= .returned (.string ⟨(jh [(z.length:Int)]).toArray⟩)/\Below wq.heap.size wq w'):=fun wq hq=>
  Yy (hE.below hq (by omega)) (by have:=hq.size;omega) ⟨by omega,by omega⟩
 clear h hE hz hm
 go_enter Tryz.func19,Tryz.ntmps19
 go_wp2_with
  (first
   |(go_at_call 33;refine pr.mono ?_;rintro e w2 ⟨rfl,h2⟩
     have dg:=HT.out w2 h2;have H2:Hid (Below w.heap.size w w2):=h2
     clear pr h2)
   |(go_at_call 29;refine dg.mono ?_;rintro e w3 ⟨rfl,h3⟩
     have H3:Hid (Below w.heap.size w w3):=H2.out.trans (h3.mono H2.out.size)
     clear dg h3))
 go_ret;exact⟨rfl,H3.out⟩
theorem YA(h:aZ w pb B rv p)(hE:cB G w)(hG:G<=pb)(hm:aD p.T p.N p.R=true):Calls Tryz.prog 17 #[.pointer (some ⟨pb,0,none⟩)] w fun e w'=> ∃O,nN p.N p.R O/\e= .returned (.string ⟨(jh O).toArray⟩)/\Below w.heap.size w w':=by
 obtain⟨c0,c1,c2,-⟩:=h.cells;obtain⟨ra,rc,aG⟩:=h.rules.at.1;subst aG;have sh:=Yh (T:=p.T) (N:=p.N) h.rules.at hm;have hN:=(fV hm).2.2.1;have hpb:=h.below
 have HT:Hid (∀wq g O,Below w.heap.size w wq->dR wq w.heap.size g p.N O->nN p.N p.R O->Calls Tryz.prog 29 #[.slice (some ⟨g,0,none⟩) p.N p.N] wq fun e w'=>e= .returned (.string ⟨(jh O).toArray⟩)/\Below wq.heap.size wq w'):=fun wq g O hq hr hi=>
  Cm (hE.below hq (by omega)) (by have:=hq.size;omega) hr.list (by have:=hr.len;omega) (PN hi)
 clear h hE hm
 go_enter Tryz.func17,Tryz.ntmps17
 go_wp2_with
  (first
   |(go_at_call 30;refine sh.mono ?_;rintro e w2 ⟨g,O,rfl,h2,h3,h4⟩
     have dg:=HT.out w2 g O h2 h3 h4;have H2:Hid (Below w.heap.size w w2/\nN p.N p.R O):=⟨h2,h4⟩
     clear sh h2 h3 h4)
   |(go_at_call 29;refine dg.mono ?_;rintro e w3 ⟨rfl,h3⟩
     have H3:Hid (Below w.heap.size w w3):=H2.out.1.trans (h3.mono H2.out.1.size)
     clear dg h3))
 go_ret;exact⟨O,H2.out.2,rfl,H3.out⟩
end
end Go.Proofs.YtblkkhfdeaaidaaGreatDoor
namespace Go.Proofs.YtblkkhfdeaaidaaGreatDoor
def lD(A:Int->List Int->Prop):List Sy->List Int->Prop
 | [],Z=>Z=[]
 |(true,v)::l,Z=> ∃Z',Z=v::Z'/\lD A l Z'
 |(false,n)::l,Z=> ∃Z1 Z2,Z=Z1++Z2/\A n Z1/\lD A l Z2
def CQ(R:List Ru)(A:Int->List Int->Prop)(n:Int)(Z:List Int):Prop:=∃r∈R,r.1=n/\lD A r.2 Z
def tu(R:List Ru):Nat->Int->List Int->Prop
 |0,_,_=>False
 |k+1,n,Z=>CQ R (tu R k) n Z
def lF(R:List Ru)(n:Int)(Z:List Int):Prop:=∃k,tu R k n Z
theorem lD.mono{A B:Int->List Int->Prop}(h:∀n Z,A n Z->B n Z):∀{l:List Sy} {Z:List Int},lD A l Z->lD B l Z:=by
 intro l
 induction l with
 |nil=>intro Z hZ;exact hZ
 |cons s l ih=>
  intro Z hZ;obtain⟨b,n⟩:=s;cases b with
  |true=>obtain⟨Z',h1,h2⟩:=hZ;exact⟨Z',h1,ih h2⟩
  |false=>obtain⟨Z1,Z2,h1,h2,h3⟩:=hZ;exact⟨Z1,Z2,h1,h _ _ h2,ih h3⟩
theorem CQ.mono{R:List Ru}{A B:Int->List Int->Prop}(h:∀n Z,A n Z->B n Z){n:Int}{Z:List Int}(hZ:CQ R A n Z):CQ R B n Z:=by
 obtain⟨r,h1,h2,h3⟩:=hZ;exact⟨r,h1,h2,h3.mono h⟩
theorem YB{R:List Ru}:∀k n Z,tu R k n Z->tu R (k+1) n Z:=by
 intro k
 induction k with
 |zero=>intro n Z h;exact h.elim
 |succ k ih=>intro n Z h;exact CQ.mono ih h
theorem PO{R:List Ru}{k m:Nat}(h:k<=m):∀n Z,tu R k n Z->tu R m n Z:=by
 induction h with
 |refl=>intro n Z h;exact h
 |step _ ih=>intro n Z h;exact YB _ _ _ (ih n Z h)
theorem YC{R:List Ru}:∀{l:List Sy} {Z:List Int},lD (lF R) l Z->∃k,lD (tu R k) l Z:=by
 intro l
 induction l with
 |nil=>intro Z h;exact⟨0,h⟩
 |cons s l ih=>
  intro Z h;obtain⟨b,n⟩:=s;cases b with
  |true=>
   obtain⟨Z',h1,h2⟩:=h;obtain⟨k,hk⟩:=ih h2;exact⟨k,Z',h1,hk⟩
  |false=>
   obtain⟨Z1,Z2,h1,⟨m,h2⟩,h3⟩:=h;obtain⟨k,hk⟩:=ih h3;exact⟨max m k,Z1,Z2,h1,PO (Nat.le_max_left _ _) _ _ h2,hk.mono (PO (Nat.le_max_right _ _))⟩
theorem YD{R:List Ru}{r:Ru}(hr:r∈R){Z:List Int}(h:lD (lF R) r.2 Z):lF R r.1 Z:=by
 obtain⟨k,hk⟩:=YC h;exact⟨k+1,r,hr,rfl,hk⟩
section
variable{R:List Ru}
end
def part(tok:List Int)(i j:Nat):List Int:=(tok.drop i).take (j-i)
theorem PS(tok:List Int)(i:Nat):part tok i i=[]:=by simp[part]
theorem PU(tok:List Int):part tok 0 tok.length=tok:=by simp[part]
theorem FM{tok:List Int}{i j:Nat}(h:i<=j)(hj:j<=tok.length):(part tok i j).length=j-i:=by
 simp[part];omega
theorem PV{tok:List Int}{i j:Nat}(h:i<j)(hj:j<=tok.length):part tok i j=tok.getD i 0::part tok (i+1) j:=by
 have hi:i<tok.length:=by omega
 unfold part;rw[List.drop_eq_getElem_cons hi,show j-i=(j-(i+1))+1 by omega,List.take_succ_cons];simp[List.getD,hi]
theorem J7{tok:List Int}{i m j:Nat}(h1:i<=m)(h2:m<=j):part tok i j=part tok i m++part tok m j:=by
 unfold part;have e:tok.drop m=(tok.drop i).drop (m-i):=by rw[List.drop_drop];congr 1;omega
 rw[e,show j-i=(m-i)+(j-m) by omega,List.take_add]
theorem YE{tok Z1 Z2:List Int}{i j:Nat}(h:i<=j)(hj:j<=tok.length)(e:part tok i j=Z1++Z2):i+Z1.length<=j/\Z1=part tok i (i+Z1.length)/\Z2=part tok (i+Z1.length) j:=by
 have hl:=FM h hj;have hl2:Z1.length+Z2.length=j-i:=by rw[<-hl,e];simp
 have hle:i+Z1.length<=j:=by omega
 have e2:=J7 (tok:=tok) (i:=i) (m:=i+Z1.length) (j:=j) (by omega) hle;rw[e]at e2;have hl3:(part tok i (i+Z1.length)).length=Z1.length:=by rw[FM (by omega) (by omega)];omega
 obtain⟨a,b⟩:=List.append_inj e2 hl3.symm;exact⟨hle,a,b⟩
section
variable{K:Nat->Nat->Nat->Bool}{tok:List Int}{upto:Nat}
end
end Go.Proofs.YtblkkhfdeaaidaaGreatDoor
