import Derived.Lib.ItoaNum
import Derived.Test.YthbifaoaiggooaaGreatDoorq3
set_option maxHeartbeats 6400000
set_option maxRecDepth 100000
namespace Go.Proofs.YthbifaoaiggooaaGreatDoor
open Go.RowKit
theorem vJ{w:World}{b i:Nat}{cs:Array Value}{ty:TypeId}{f:Nat×Nat}{u:Value}(h:w.heap[b]?=some (.cells cs ty f))(hu:cs[i]?=some u):w.cell? ⟨b,i,none⟩=some u:=by
 unfold World.cell?;simp[h,hu]
theorem aW.yT{P:Program}{ops:Array Oper}{S:World->Prop}{K:Act->Prop}{i:Nat}{o:Oper}{l:List Nat}{a:Act}{v:Value}(ho:ops.toList[i]?=some o)(hw:Region.wanted o (yielded ops a.tmps)=true)(hy:∀w,S w->(execOp a.eval o).run P w= .ok (.value v) w)(h:aW P ops S K l (a.put o.dst v)):aW P ops S K (i::l) a:=
 aW.cons (by simpa using ho) hw hy h
def nO(S:List (List UInt8)):List Value:=S.map λl=> .string ⟨l.toArray⟩
theorem abV{S:List (List UInt8)}{k:Nat}(h:k<S.length):(nO S).toArray[k]?=some (.string ⟨S[k].toArray⟩):=by simp[nO,h]
section
variable{w:World}{B b sb:Nat}{S:List (List UInt8)}{acc:List UInt8}
theorem Kh(hI:Lib.IsBuilderF 48 5 B b (Lib.byteCells acc) w)(hsb:w.heap[sb]?=some (.cells (nO S).toArray 9 (0,0)))(hne:sb≠b)(hBw:B<=w.heap.size)(hlen:acc.length+S.flatten.length<=1000000)(hSl:S.length<=1000):
 Calls Tryz.prog 54 #[.slice (some ⟨sb,0,none⟩) S.length S.length,.pointer (some ⟨b,0,none⟩)] w λe w'=>e= .returned (.tuple #[])/\Lib.IsBuilderF 48 5 B b (Lib.byteCells (acc++S.flatten)) w'/\Below B w w'/\Lib.OthersKept 5 (some b) w w':=by
 have HI:Hid (Lib.IsBuilderF 48 5 B b (Lib.byteCells acc) w):=hI;have HSb:Hid (∀wq,Lib.OthersKept 5 (some b) w wq->wq.heap[sb]?=some (.cells (nO S).toArray 9 (0,0))):=λwq hq=>hq sb _ hsb (λe=>hne (yL e)) (λ_ _ e=>by cases e);have HL:Hid (acc.length+S.flatten.length<=1000000/\B<=w.heap.size):=⟨hlen,hBw⟩;clear hI hsb hne hBw hlen
 go_enter Tryz.func54,Tryz.ntmps54
 go_wp2_with fail
 go_loopw [7] (λs7 wr=> ∃k:Nat,s7= .int .i64 k/\k<=S.length/\Lib.IsBuilderF 48 5 B b (Lib.byteCells (acc++(S.take k).flatten)) wr/\Below B w wr/\Lib.OthersKept 5 (some b) w wr) (λs _=>S.length-(intOf s).toNat)
 case atStart=>exact⟨0,rfl,aP _,by rw[List.take_zero,List.flatten_nil,qp];exact HI.out,ai _ _,Lib.OthersKept.refl _ _ _⟩
 case round=>
  obtain⟨k,rfl,hk,hI,hB,hO⟩:=hrel;have HR:Hid (Lib.IsBuilderF 48 5 B b (Lib.byteCells (acc++(S.take k).flatten)) wr/\Below B w wr/\Lib.OthersKept 5 (some b) w wr):=⟨hI,hB,hO⟩;have hcell:=HSb.out wr hO;clear hI hB hO;by_cases hlt:k<S.length
  ·have c1:wr.cell? ⟨sb,k,none⟩=some (.string ⟨S[k].toArray⟩):=vJ hcell (abV hlt)
   have hsum:(S.take (k+1)).flatten=(S.take k).flatten++S[k]:=by rw[fT hlt,List.flatten_append];simp
   have hle:(S.take (k+1)).flatten.length<=S.flatten.length:=by
    have e:S.flatten=(S.take (k+1)).flatten++(S.drop (k+1)).flatten:=by rw[<-List.flatten_append,wT]
    rw[e,aS];omega
   obtain⟨x,hx⟩:=af (S[k]);rw[hx]at c1 hsum;have hsz:(⟨x.toArray⟩:ByteArray).size=x.length:=by simp[ByteArray.size]
   have Oa:=aaO B b _ ⟨x.toArray⟩ wr HR.out.1 (by rw[Lib.byteCells_length,hsz,aS];rw[hsum,aS]at hle;have:=HL.out.1;omega) (aZ HL.out.2 HR.out.2.1.size);have HS:Hid ((S.take (k+1)).flatten=(S.take k).flatten++x):=hsum;obtain⟨xs,hxs⟩:=af ((⟨x.toArray⟩:ByteArray))
   have HX:Hid (Lib.strCells xs=Lib.byteCells x):=by
    show Lib.strCells xs=_;rw[<-hxs,Lib.strCells_eq]
   rw[hxs]at c1 Oa;have i0:(0:Int)<=(k:Int):=aF _;have i1:(k:Int)<(S.length:Int):=by omega
   clear hcell hsum hle hx hsz hxs
   go_wp2_with
    (go_at_call 14;refine Oa.mono ?_;rintro e w2 ⟨rfl,h1,h2,h3⟩
     have HW:Hid (Lib.BuilderAtF 48 5 B b (.pointer (some ⟨b,0,none⟩)) (Lib.byteCells (acc++(S.take k).flatten)++Lib.strCells xs) w2/\Below B wr w2/\Lib.OthersKept 5 (some b) wr w2):=⟨h1,h2,h3⟩
     clear Oa h1 h2 h3)
   go_roundw
   case rel=>
    refine⟨k+1,by go_num,by omega,?_,HR.out.2.1.trans HW.out.2.1,HR.out.2.2.trans HW.out.2.2⟩;have h1:=HW.out.1;rw[HX.out,<-Lib.byteCells_append]at h1;rw[HS.out,<-mG];exact .inr h1
   case measure=>simp[intOf];omega
  ·have hkk:k=S.length:=by omega
   clear hcell
   go_wp2_with fail
   go_end0
   refine⟨rfl,?_,HR.out.2⟩;have h1:=HR.out.1;rw[hkk,gH]at h1;exact h1
end
theorem abW{w:World}{t:Bool}{v:Int}:Calls Tryz.prog 56 #[.agg #[.bool t,.int .i64 v]] w λe w'=>e= .returned (.string ⟨[if t then 116 else 110].toArray⟩)/\Below w.heap.size w w':=by
 have HB:Hid (Below w.heap.size w (w.alloc (.cells #[.bool t,.int .i64 v] 121))):=(ai _ _).alloc (ah _) _;cases t with
 |true=>
  go_enter Tryz.func56,Tryz.ntmps56
  go_wp2_with fail
  go_ret;exact⟨rfl,HB.out⟩
 |false=>
  go_enter Tryz.func56,Tryz.ntmps56
  go_wp2_with fail
  go_ret;exact⟨rfl,HB.out⟩
end Go.Proofs.YthbifaoaiggooaaGreatDoor
namespace Go.Proofs.YthbifaoaiggooaaGreatDoor
def oH(s:Sy):List UInt8:=32::(if s.1 then 116 else 110)::Lib.decDigits s.2.toNat
def uK(n:Int):List UInt8:=110::(Lib.decDigits n.toNat++[58])
def rA(r:Ru):List UInt8:=uK r.1++((r.2.map oH).flatten++[10])
def xG(T N:Nat):List UInt8:=[116,101,114,109,115,32]++(Lib.decDigits T++([32,110,97,109,101,115,32]++(Lib.decDigits N++[10])))
def nP(T N:Nat)(R:List Ru):List UInt8:=xG T N++(R.map rA).flatten
theorem Gj{α:Type}{l:List α}{j:Nat}{d:α}(h:j<l.length):l.getD j d=l[j]:=by simp[List.getD,h]
theorem TR{n:Nat}(h:n<10):Lib.decDigits n=[UInt8.ofNat (48+n)]:=by rw[Lib.decDigits,dif_pos h]
theorem abX{n:Nat}(h:¬n<10):Lib.decDigits n=Lib.decDigits (n/10)++[UInt8.ofNat (48+n%10)]:=by rw[Lib.decDigits,dif_neg h]
theorem Aq{n:Nat}(h:n<100):(Lib.decDigits n).length<=2:=by
 by_cases h1:n<10
 ·rw[TR h1];simp
 ·rw[abX h1,TR (by omega)];simp
theorem abY{s:Sy}(h:s.2.toNat<100):(oH s).length<=4:=by
 have:=Aq h;simp only[oH,List.length_cons];omega
theorem Ki{α:Type}(f:α->List UInt8)(m:Nat):∀(l:List α),(∀x∈l,(f x).length<=m)->(l.map f).flatten.length<=l.length*m
 | [],_=>by simp
 |x::l,h=>by
  have h1:=h x (List.mem_cons_self ..);have h2:=Ki f m l λy hy=>h y (mH _ hy);rw[jB,List.flatten_cons,aS,List.length_cons,Nat.add_mul];omega
structure Low(T N:Nat)(R:List Ru):Prop where
 t:T<100
 n:N<100
 r:R.length<=40
 left:∀k,k<R.length->∃m:Nat,(R.getD k (0,[])).1=m/\m<100
 len:∀k,k<R.length->(R.getD k (0,[])).2.length<=8
 sym:∀k,k<R.length->∀j,j<(R.getD k (0,[])).2.length->∃m:Nat,((R.getD k (0,[])).2.getD j (false,0)).2=m/\m<100
theorem Kj{T N:Nat}{R:List Ru}(hm:aJ T N R=true):Low T N R:=by
 obtain⟨h1,h2,h3,h4,h5⟩:=iD hm;refine⟨by omega,by omega,h4,λk hk=> ?_,λk hk=>(h5 k hk).2.2.1,λk hk j hj=> ?_⟩
 ·obtain⟨a,b,_⟩:=h5 k hk
  exact⟨(R.getD k (0,[])).1.toNat,by omega,by omega⟩
 ·have hmem:(R.getD k (0,[])).2.getD j (false,0)∈(R.getD k (0,[])).2:=by rw[Gj hj];exact jO hj
  obtain⟨a,b⟩:=(h5 k hk).2.2.2 _ hmem;refine⟨((R.getD k (0,[])).2.getD j (false,0)).2.toNat,by omega,?_⟩;split at b<;>omega
section
variable{T N:Nat}{R:List Ru}
theorem Low.mR(h:Low T N R){k:Nat}(hk:k<R.length):∀s∈(R.getD k (0,[])).2,(oH s).length<=4:=λs hs=>by
 obtain⟨j,hj,rfl⟩:=kE hs;obtain⟨m,h1,h2⟩:=h.sym k hk j hj;rw[Gj hj]at h1;exact abY (by omega)
theorem Low.TS(h:Low T N R){k:Nat}(hk:k<R.length):(uK (R.getD k (0,[])).1).length<=4:=by
 obtain⟨m,h1,h2⟩:=h.left k hk;have:=Aq h2;rw[h1];simp only[uK,List.length_cons,aS,List.length_nil,Int.toNat_natCast];omega
theorem Low.abZ(h:Low T N R){k:Nat}(hk:k<R.length):(rA (R.getD k (0,[]))).length<=40:=by
 have h1:=h.TS hk;have h2:=Ki oH 4 (R.getD k (0,[])).2 (h.mR hk);have h3:=h.len k hk;simp only[rA,aS,List.length_cons,List.length_nil];omega
theorem Kk(h:Low T N R):(xG T N).length<=20:=by
 have h1:=Aq h.t;have h2:=Aq h.n;simp only[xG,aS,List.length_cons,List.length_nil];omega
theorem Low.mem(h:Low T N R):∀r∈R,(rA r).length<=40:=λr hr=>by
 obtain⟨k,hk,rfl⟩:=kE hr;have:=h.abZ hk;rw[Gj hk]at this;exact this
theorem Low.part(h:Low T N R)(k:Nat):(((R.take k).map rA).flatten).length<=1600:=by
 have h1:=Ki rA 40 (R.take k) λr hr=>h.mem r (wR hr);have h2:=h.r;rw[fq]at h1;have:min k R.length*40<=40*40:=BM _ (by omega);omega
theorem Low.ab1(h:Low T N R){k:Nat}(hk:k<R.length)(j:Nat):((((R.getD k (0,[])).2.take j).map oH).flatten).length<=32:=by
 have h1:=Ki oH 4 ((R.getD k (0,[])).2.take j) λs hs=>h.mR hk s (wR hs);have h2:=h.len k hk;rw[fq]at h1;have:min j (R.getD k (0,[])).2.length*4<=8*4:=BM _ (by omega);omega
end
theorem TT{α:Type}(f:α->List UInt8){l:List α}{k:Nat}(hk:k<l.length):((l.take (k+1)).map f).flatten=((l.take k).map f).flatten++f l[k]:=by
 rw[fT hk,fD,List.flatten_append];simp
end Go.Proofs.YthbifaoaiggooaaGreatDoor
namespace Go.Proofs.YthbifaoaiggooaaGreatDoor
open Go.RowKit
def TU(sz:Nat)(T N:Int)(ra:Option Addr)(rl rc:Nat)(wq:World):Prop:=
 wq.cell? ⟨sz,0,none⟩=some (.int .i64 T)/\wq.cell? ⟨sz,1,none⟩=some (.int .i64 N)/\wq.cell? ⟨sz,2,none⟩=some (.slice ra rl rc)
theorem TV(w:World):Lib.IsBuilderF 48 5 w.heap.size w.heap.size (Lib.byteCells []) (w.alloc (.cells #[.pointer none,.slice none 0 0] 48)):=
 .inl ⟨ah _,.slice none 0 0,heap_alloc_new w _,World.ownsRowF_of (ji _ _ _ _),by simp[Value.ownBlock]⟩
theorem TW{T e B b:Nat}{bs:List Value}{w w':World}(h:Lib.IsBuilderF T e B b bs w)(hb:Below w.heap.size w w'):Lib.IsBuilderF T e B b bs w':=by
 have one:∀p,Lib.BuilderAtF T e B b p bs w->Lib.BuilderAtF T e B b p bs w':=λp h=>by
  obtain⟨h1,v,h2,h3,h4⟩:=h;refine⟨h1,v,(hb.block _ (dx.1 h2).1).trans h2,⟨h3.1,?_⟩,h4⟩;rcases h3.2 with h5|⟨g,cap,cur,fz,e1,e2,e3,e4⟩
  ·exact .inl h5
  ·exact .inr ⟨g,cap,cur,fz,e1,e2,(hb.block _ (dx.1 e3).1).trans e3,e4⟩
 exact h.imp (one _) (one _)
theorem Ar{T e B b:Nat}{bs:List Value}{w:World}(h:Lib.IsBuilderF T e B b bs w):b<w.heap.size:=by
 rcases h with⟨_,v,h,_⟩|⟨_,v,h,_⟩<;>exact(dx.1 h).1
section
variable{w:World}{ra:Option Addr}{rc:Nat}{R:List Ru}
theorem TY{T N:Nat}(hr:aG w w.heap.size (.slice ra R.length rc) R)(hm:aJ T N R=true):
 Calls Tryz.prog 24 #[.agg #[.int .i64 T,.int .i64 N,.slice ra R.length rc]] w λe w'=>e= .returned (.tuple #[.string ⟨(nP T N R).toArray⟩,.int .i64 0])/\Below w.heap.size w w':=by
 obtain⟨W1,hW1⟩:=af (w.alloc (.cells #[.int .i64 (T:Int),.int .i64 (N:Int),.slice ra R.length rc] 27));have hB1:Below w.heap.size w W1:=by rw[<-hW1];exact(ai _ _).alloc (ah _) _
 have hx:=heap_alloc_new w (.cells #[.int .i64 (T:Int),.int .i64 (N:Int),.slice ra R.length rc] 27);rw[hW1]at hx;have g0:W1.cell? ⟨w.heap.size,0,none⟩=some (.int .i64 (T:Int)):=vJ hx rfl;have g1:W1.cell? ⟨w.heap.size,1,none⟩=some (.int .i64 (N:Int)):=vJ hx rfl;have g2:W1.cell? ⟨w.heap.size,2,none⟩=some (.slice ra R.length rc):=vJ hx rfl;have hr1:aG W1 W1.heap.size (.slice ra R.length rc) R:=(hr.below hB1).mono hB1.size;have may:=oD (w:=W1) (T:=T) (N:=N) hr1;rw[hm]at may;have uL:Hid (Low T N R):=Kj hm;have HW1:Hid (Below w.heap.size w W1/\W1.heap[w.heap.size]?=some (.cells #[.int .i64 (T:Int),.int .i64 (N:Int),.slice ra R.length rc] 27 (0,0))/\aG W1 W1.heap.size (.slice ra R.length rc) R):=⟨hB1,hx,hr1⟩;have hcf:∀args w,(callFunc 54 args).run Tryz.prog w= .ok (.enter 54 args) w:=λargs w=>by simp[callFunc,Tryz.func54,Tryz.f54 ]
 clear hr hm hB1 hx hr1
 go_enter Tryz.func24,Tryz.ntmps24
 go_upto_region 5 with(go_at_call 18;refine may.mono ?_;rintro e w2 ⟨rfl,hB2⟩;have HB2:Hid (Below W1.heap.size W1 w2):=hB2;clear may hB2 g0 g1 g2 hW1)
 obtain⟨b,hb⟩:=af w2.heap.size;obtain⟨W3,hW3⟩:=af (w2.alloc (.cells #[.pointer none,.slice none 0 0] 48));have hI0:=TV w2;rw[hW3,hb]at hI0;have T9:Below b w2 W3:=by rw[<-hW3,<-hb];exact(ai _ _).alloc (ah _) _
 have hz3:W3.heap.size=b+1:=by rw[<-hW3,<-hb];simp
 rw[hW3];rw[hb]
 have HG:Hid (∀wq,Below b W3 wq->TU w.heap.size T N ra R.length rc wq/\aG wq b (.slice ra R.length rc) R/\Below w.heap.size w wq):=λwq hq=>by
  have h1:Below b w2 wq:=T9.trans hq;have hs:W1.heap.size<=b:=by rw[<-hb];exact HB2.out.size
  have h2:Below W1.heap.size W1 wq:=HB2.out.trans (h1.mono hs);have hx:=(h2.block _ (dx.1 HW1.out.2.1).1).trans HW1.out.2.1;exact⟨⟨vJ hx rfl,vJ hx rfl,vJ hx rfl⟩,(HW1.out.2.2.below h2).mono hs,HW1.out.1.trans (h2.mono HW1.out.1.size)⟩
 have HI0:Hid (Lib.IsBuilderF 48 5 b b (Lib.byteCells []) W3/\W3.heap.size=b+1):=⟨hI0,hz3⟩;clear hI0 T9 hz3 hW3 hb;obtain⟨Wd,hWd⟩:=af W3.drew;have hBd:Below b W3 Wd:=by rw[<-hWd];exact(ai _ _).drew
 have Ua:Lib.IsBuilderF 48 5 b b (Lib.byteCells []) Wd:=by rw[<-hWd];exact HI0.out.1
 have hzd:Wd.heap.size=b+1:=by rw[<-hWd];exact HI0.out.2
 have S0:=(HG.out Wd hBd).1;have HD:Hid (Below b W3 Wd/\Lib.IsBuilderF 48 5 b b (Lib.byteCells []) Wd/\Wd.heap.size=b+1):=⟨hBd,Ua,hzd⟩;clear hBd Ua hzd;refine mK [0,1,2,4,5] 4 8 (TU w.heap.size T N ra R.length rc) (by kernel_rfl) (by kernel_rfl) (by rw[hWd];exact S0) ?_;rw[hWd];clear hWd
 iterate 5
  refine aW.yT (v:= ?_) rfl (by rfl) ?_ ?_;rotate_left
  ·intro w' hSw
   obtain⟨z0,z1,z2⟩:=hSw
   go_simp
   try with_reducible rfl
  simp only[Act.put,eB,List.set_cons_zero,List.set_cons_succ]
 rw[aW];have Gl:=JR T uL.out.t Wd;refine aC.one (i:=3) (by kernel_rfl) ⟨_,rfl,λK hK=> ?_⟩
 go_simp
 refine Gl.mono ?_;rintro e w4 ⟨rfl,h4⟩;obtain rfl:Wd=w4:=h4.symm;dsimp only;refine hK.out _ _ (λ_=>S0) ?_;clear hK Gl;have Gm:=JR N uL.out.n Wd;refine aC.one (i:=6) (by kernel_rfl) ⟨_,rfl,λK hK=> ?_⟩
 go_simp
 refine Gm.mono ?_;rintro e w4 ⟨rfl,h4⟩;obtain rfl:Wd=w4:=h4.symm;dsimp only;refine hK.out _ _ (λ_=>S0) ?_;clear hK Gm;have Cb:Below b Wd (Wd.alloc (.cells (nO [[116,101,114,109,115,32],Lib.decDigits T,[32,110,97,109,101,115,32],Lib.decDigits N,[10]]).toArray 9)):=(ai _ _).alloc (by have:=HD.out.2.2;omega) _;have pu:=Kh (w:=Wd.alloc (.cells (nO [[116,101,114,109,115,32],Lib.decDigits T,[32,110,97,109,101,115,32],Lib.decDigits N,[10]]).toArray 9)) (B:=b) (b:=b) (sb:=Wd.heap.size) (S:=[[116,101,114,109,115,32],Lib.decDigits T,[32,110,97,109,101,115,32],Lib.decDigits N,[10]]) (acc:=[]) (HD.out.2.1.alloc _) (heap_alloc_new _ _) (by have:=HD.out.2.2;omega) (by have:=HD.out.2.2;simp;omega) (by have h1:=Aq uL.out.t;have h2:=Aq uL.out.n;simp;omega) (by simp);have hS1:=(HG.out _ (HD.out.1.trans Cb)).1;simp only[nO,jB,oq]at Cb pu hS1;refine aC.one (i:=7) (by kernel_rfl) ⟨_,rfl,λK hK=> ?_⟩
 go_simp
 refine hK.out _ _ (λ_=>hS1) ?_;clear hK;refine aC.last (i:=8) (by kernel_rfl) ⟨_,rfl,λK hK=> ?_⟩
 go_simp
 refine pu.mono ?_;rintro e w5 ⟨rfl,Ub,aD,-⟩;dsimp only;refine hK.out _ _ (λh=>absurd h (by omega)) (NoPanic.normal ?_);clear hK pu
 have Cc:Hid (Lib.IsBuilderF 48 5 b b (Lib.byteCells (xG T N)) w5/\Below b W3 w5):=by
  refine⟨?_,HD.out.1.trans (Cb.trans aD)⟩;have e:[]++[[116,101,114,109,115,32],Lib.decDigits T,[32,110,97,109,101,115,32],Lib.decDigits N,[10]].flatten=xG T N:=by simp[xG]
  rw[<-e];exact Ub
 obtain⟨z0,z1,z2⟩:=(HG.out w5 Cc.out.2).1;clear Ub aD Cb hS1 S0 HD HI0
 go_wp2_with fail
 clear z0 z1 z2
 go_loopw [26] (λs26 wr=> ∃k:Nat,s26= .int .i64 k/\k<=R.length/\Lib.IsBuilderF 48 5 b b (Lib.byteCells (xG T N++((R.take k).map rA).flatten)) wr/\Below b W3 wr/\b<wr.heap.size) (λs _=>R.length-(intOf s).toNat)
 case atStart=>
  refine⟨0,rfl,aP _,?_,Cc.out.2,?_⟩
  ·rw[List.take_zero,oq,List.flatten_nil,qp];exact Cc.out.1
  ·exact Ar Cc.out.1
 case round=>
  clear Cc;obtain⟨k,rfl,hk,hI,hB,hlb⟩:=hrel;have ai9:=uL.out.r;obtain⟨wo,hwo⟩:∃x,x=wr:=⟨_,rfl⟩;subst hwo;have HR:Hid (Lib.IsBuilderF 48 5 b b (Lib.byteCells (xG T N++((R.take k).map rA).flatten)) wo/\Below b W3 wo/\b<wo.heap.size):=⟨hI,hB,hlb⟩;clear hI hB hlb;by_cases hlt:k<R.length
  ·obtain⟨b0,o0,uM,qa,qc,hv,-,k1,k2',-,hsy⟩:=(HG.out wo HR.out.2.1).2.1.2 k hlt
   have k2:wo.cell? ⟨b0,o0+k*2+1,none⟩=some (.slice qa (R.getD k (0,[])).2.length qc):=k2';clear k2';injection hv with hv1 _ hv3;subst hv1;subst hv3;have hstep:=TT rA hlt;rw[<-Gj (d:=(0,[])) hlt]at hstep;have hpl:=uL.out.part k;have hhl:=Kk uL.out;have hll:=uL.out.TS hlt;have hsl:=λj=>uL.out.ab1 hlt j;have hsm:=uL.out.sym k hlt;have hsn:=uL.out.len k hlt;obtain⟨m,hm,hm1⟩:=uL.out.left k hlt;obtain⟨⟨L,l⟩,hx⟩:=af (R.getD k (0,[]));rw[hx]at k1 k2 hsy hstep hll hsl hsm hsn hm;simp only at k1 k2 hsy hll hsl hsm hsn hm;subst hm;obtain⟨acc,hacc⟩:=af (xG T N++((R.take k).map rA).flatten);have hal:acc.length<=1700:=by rw[<-hacc,aS];omega
   rw[hacc]at HR;have HLen:Hid (acc.length<=1700/\(uK (m:Int)).length<=4):=⟨hal,hll⟩
   have mQ:Hid (xG T N++((R.take (k+1)).map rA).flatten=acc++rA ((m:Int),l)):=by
    show _=_;rw[hstep,<-mG,hacc]
   obtain⟨W8,DY⟩:=af (wo.alloc (.cells #[.int .i64 (m:Int),.slice qa l.length qc] 96));have pU:Below b wo W8:=by rw[<-DY];exact(ai _ _).alloc (iQ HR.out.2.2) _
   have Au:Lib.IsBuilderF 48 5 b b (Lib.byteCells acc) W8:=by rw[<-DY];exact HR.out.1.alloc _
   have Gn:=heap_alloc_new wo (.cells #[.int .i64 (m:Int),.slice qa l.length qc] 96);rw[DY]at Gn;obtain⟨rb,hrb⟩:=af wo.heap.size;have hz8:W8.heap.size=rb+1:=by rw[<-DY,<-hrb];simp
   rw[hrb]at Gn;have c0:W8.cell? ⟨rb,0,none⟩=some (.int .i64 (m:Int)):=vJ Gn rfl;have Uc:b<rb:=by rw[<-hrb];exact HR.out.2.2
   have Gl:=JR m hm1 W8;have pu:=Kh (w:=W8.alloc (.cells (nO [[110],Lib.decDigits m,[58]]).toArray 9)) (B:=b) (b:=b) (sb:=W8.heap.size) (S:=[[110],Lib.decDigits m,[58]]) (acc:=acc) (Au.alloc _) (heap_alloc_new _ _) (by omega) (by simp;omega) (by have h1:=Aq hm1;simp;omega) (by simp);have yN:Below b W8 (W8.alloc (.cells (nO [[110],Lib.decDigits m,[58]]).toArray 9)):=(ai _ _).alloc (by omega) _;have vC:(W8.alloc (.cells (nO [[110],Lib.decDigits m,[58]]).toArray 9)).heap[rb]?=some (.cells #[.int .i64 (m:Int),.slice qa l.length qc] 96 (0,0)):=(heap_alloc_old W8 _ (by omega)).trans Gn;simp only[nO,jB,oq]at pu yN vC;have qW:Hid (Below b wo W8/\Below b W8 (W8.alloc (.cells #[.string ⟨[110].toArray⟩,.string ⟨(Lib.decDigits m).toArray⟩,.string ⟨[58].toArray⟩] 9))/\(W8.alloc (.cells #[.string ⟨[110].toArray⟩,.string ⟨(Lib.decDigits m).toArray⟩,.string ⟨[58].toArray⟩] 9)).heap[rb]?=some (.cells #[.int .i64 (m:Int),.slice qa l.length qc] 96 (0,0))/\b<rb):=⟨pU,yN,vC,Uc⟩
   have l7:Hid (∀wq,Below b wo wq->∀j,j<l.length->∃b' o',qa=some ⟨b',o',none⟩/\wq.cell? ⟨b',o'+j*2,none⟩=some (.bool (l.getD j (false,0)).1)/\wq.cell? ⟨b',o'+j*2+1,none⟩=some (.int .i64 (l.getD j (false,0)).2)):=λwq hq j hj=>by
    obtain⟨b',o',h1,h2,h3,h4⟩:=hsy j hj;exact⟨b',o',h1,(hq.cell h2).trans h3,(hq.cell h2).trans h4⟩
   have Ob:Hid (wo.alloc (.cells #[.int .i64 (m:Int),.slice qa l.length qc] 96)=W8/\wo.heap.size=rb):=⟨DY,hrb⟩;have i0:(0:Int)<=(k:Int):=aF _;have i1:(k:Int)<(R.length:Int):=by omega
   clear hsy hstep hpl hhl hll hx hacc pU Au Gn hz8 Uc yN vC DY hrb
   go_upto_region 9 with fail
   rw[Ob.out.1];rw[Ob.out.2]
   go_wp2_with
    (first
     |(go_at_call 55;refine Gl.mono ?_;rintro e w9 ⟨rfl,h9⟩;obtain rfl:W8=w9:=h9.symm;clear Gl)
     |(go_at_call 54;refine pu.mono ?_;rintro e w9 ⟨rfl,Ud,yN,Ue⟩
       have vC:=Ue rb _ qW.out.2.2.1 (λe=>by have:=qW.out.2.2.2;have:=yL e;omega) (λ_ _ e=>by cases e);have c1:w9.cell? ⟨rb,1,none⟩=some (.slice qa l.length qc):=vJ vC rfl
       have Oc:Hid (Lib.IsBuilderF 48 5 b b (Lib.byteCells (acc++uK (m:Int))) w9/\Below b wo w9/\b<w9.heap.size):=by
        refine⟨?_,qW.out.1.trans (qW.out.2.1.trans yN),?_⟩
        ·have e:acc++[[110],Lib.decDigits m,[58]].flatten=acc++uK (m:Int):=by simp[uK]
         rw[<-e];exact Ud
        ·have:=(dx.1 vC).1
         have:=qW.out.2.2.2;omega
       clear pu Ud yN Ue vC))
   clear c1 c0 k1 k2
   go_loopw [39] (λs39 wq=> ∃j:Nat,s39= .int .i64 j/\j<=l.length/\Lib.IsBuilderF 48 5 b b (Lib.byteCells (acc++uK (m:Int)++((l.take j).map oH).flatten)) wq/\Below b wo wq/\b<wq.heap.size) (λs _=>l.length-(intOf s).toNat)
   case atStart=>
    refine⟨0,rfl,aP _,?_,Oc.out.2⟩;rw[List.take_zero,oq,List.flatten_nil,qp];exact Oc.out.1
   case round=>
    clear Oc qW Ob;obtain⟨j,rfl,hj,Uf,pV,hlq⟩:=hrel;have HQ:Hid (Lib.IsBuilderF 48 5 b b (Lib.byteCells (acc++uK (m:Int)++((l.take j).map oH).flatten)) wr/\Below b wo wr/\b<wr.heap.size):=⟨Uf,pV,hlq⟩;clear Uf pV hlq;by_cases hjl:j<l.length
    ·obtain⟨b1,o1,sS,d1,d2⟩:=l7.out wr HQ.out.2.1 j hjl
     subst sS;obtain⟨v,hv,hv1⟩:=hsm j hjl;have hnx:=TT oH hjl;rw[<-Gj (d:=(false,0)) hjl]at hnx;have hle:=hsl j;have hle2:=hsl (j+1);obtain⟨⟨t,v'⟩,hx⟩:=af (l.getD j (false,0));rw[hx]at d1 d2 hv hnx;simp only at d1 d2 hv;subst hv;obtain⟨pW,yU⟩:=af (acc++uK (m:Int)++((l.take j).map oH).flatten)
     have ab2:pW.length<=2000:=by
      rw[<-yU,aS,aS];have:=HLen.out;omega
     have Gg:Hid (acc++uK (m:Int)++((l.take (j+1)).map oH).flatten=pW++oH (t,(v:Int))):=by
      show _=_;rw[hnx,<-mG,yU]
     rw[yU]at HQ;obtain⟨Ws,hWs⟩:=af (wr.alloc (.cells #[.bool t,.int .i64 (v:Int)] 121));have Cb:Below b wr Ws:=by rw[<-hWs];exact(ai _ _).alloc (iQ HQ.out.2.2) _
     have hIs:Lib.IsBuilderF 48 5 b b (Lib.byteCells pW) Ws:=by rw[<-hWs];exact HQ.out.1.alloc _
     have hxs:=heap_alloc_new wr (.cells #[.bool t,.int .i64 (v:Int)] 121);rw[hWs]at hxs;obtain⟨p9,Gp⟩:=af wr.heap.size;have hzs:Ws.heap.size=p9+1:=by rw[<-hWs,<-Gp];simp
     rw[Gp]at hxs;have Ug:b<p9:=by rw[<-Gp];exact HQ.out.2.2
     have Uh:Hid (wr.alloc (.cells #[.bool t,.int .i64 (v:Int)] 121)=Ws/\wr.heap.size=p9):=⟨hWs,Gp⟩;have HS:Hid (Below b wr Ws/\Lib.IsBuilderF 48 5 b b (Lib.byteCells pW) Ws/\Ws.heap[p9]?=some (.cells #[.bool t,.int .i64 (v:Int)] 121 (0,0))/\b<p9/\Ws.heap.size=p9+1):=⟨Cb,hIs,hxs,Ug,hzs⟩;have i2:(0:Int)<=(j:Int):=aF _;have i3:(j:Int)<(l.length:Int):=by omega
     clear hnx hle hle2 hx yU hWs Cb hIs hxs Gp hzs Ug
     go_upto_region 13 with fail
     rw[Uh.out.1];rw[Uh.out.2];clear d1 d2;obtain⟨vK,DZ⟩:=af Ws.drew;have Kl:Below Ws.heap.size Ws vK:=by rw[<-DZ];exact(ai _ _).drew
     have hI2:Lib.IsBuilderF 48 5 b b (Lib.byteCells pW) vK:=by rw[<-DZ];exact HS.out.2.1
     have hz2:vK.heap.size=p9+1:=by rw[<-DZ];exact HS.out.2.2.2.2
     have HSc:Hid (∀wq,Below vK.heap.size vK wq->wq.cell? ⟨p9,0,none⟩=some (.bool t)/\wq.cell? ⟨p9,1,none⟩=some (.int .i64 (v:Int))):=λwq hq=>by
      have h1:Below Ws.heap.size Ws wq:=Kl.trans (hq.mono Kl.size);have hx:=(h1.block _ (dx.1 HS.out.2.2.1).1).trans HS.out.2.2.1;exact⟨vJ hx rfl,vJ hx rfl⟩
     have S1:=HSc.out vK (ai _ _);have HD2:Hid (Below b wr vK/\Lib.IsBuilderF 48 5 b b (Lib.byteCells pW) vK/\vK.heap.size=p9+1):=⟨HS.out.1.trans (Kl.mono (by have:=HS.out.2.2.2;omega)),hI2,hz2⟩;have mk:=abW (w:=vK) (t:=t) (v:=(v:Int));clear Kl hI2 hz2;refine mK [0,1,3,4] 4 7 (λwq=>wq.cell? ⟨p9,0,none⟩=some (.bool t)/\wq.cell? ⟨p9,1,none⟩=some (.int .i64 (v:Int))) (by kernel_rfl) (by kernel_rfl) (by rw[DZ];exact S1) ?_;rw[DZ];clear DZ S1
     iterate 4
      refine aW.yT (v:= ?_) rfl (by rfl) ?_ ?_;rotate_left
      ·intro w' hSw
       obtain⟨z0,z1⟩:=hSw
       go_simp
       try with_reducible rfl
      simp only[Act.put,eB,List.set_cons_zero,List.set_cons_succ]
     rw[aW];refine aC.one (i:=2) (by kernel_rfl) ⟨_,rfl,λK hK=> ?_⟩
     go_simp
     refine mk.mono ?_;rintro e w6 ⟨rfl,bC⟩;dsimp only;refine hK.out _ _ (λ_=>HSc.out w6 bC) ?_;clear hK mk;have Gm:=JR v hv1 w6;refine aC.one (i:=5) (by kernel_rfl) ⟨_,rfl,λK hK=> ?_⟩
     go_simp
     refine Gm.mono ?_;rintro e w7 ⟨rfl,h7⟩;obtain rfl:w6=w7:=h7.symm;dsimp only;refine hK.out _ _ (λ_=>HSc.out w6 bC) ?_;clear hK Gm;have Ui:Lib.IsBuilderF 48 5 b b (Lib.byteCells pW) w6:=TW HD2.out.2.1 bC;have Uj:Below b vK w6:=bC.mono (by have:=HD2.out.2.2;have:=HS.out.2.2.2;omega);have kX:p9+1<=w6.heap.size:=by have:=bC.size;have:=HD2.out.2.2;omega
     have Od:=Kh (w:=w6.alloc (.cells (nO [[32],[if t then 116 else 110],Lib.decDigits v]).toArray 9)) (B:=b) (b:=b) (sb:=w6.heap.size) (S:=[[32],[if t then 116 else 110],Lib.decDigits v]) (acc:=pW) (Ui.alloc _) (heap_alloc_new _ _) (by have:=HS.out.2.2.2;omega) (by have:=HS.out.2.2.2;simp;omega) (by have h1:=Aq hv1;simp;omega) (by simp);have hBa:Below b w6 (w6.alloc (.cells (nO [[32],[if t then 116 else 110],Lib.decDigits v]).toArray 9)):=(ai _ _).alloc (by have:=HS.out.2.2.2;omega) _;have Oe:=HSc.out _ (bC.alloc bC.size (.cells (nO [[32],[if t then 116 else 110],Lib.decDigits v]).toArray 9));simp only[nO,jB,oq]at Od hBa Oe;refine aC.one (i:=6) (by kernel_rfl) ⟨_,rfl,λK hK=> ?_⟩
     go_simp
     refine hK.out _ _ (λ_=>Oe) ?_;clear hK;refine aC.last (i:=7) (by kernel_rfl) ⟨_,rfl,λK hK=> ?_⟩
     go_simp
     refine Od.mono ?_;rintro e w8 ⟨rfl,Au,pU,-⟩;dsimp only;refine hK.out _ _ (λh=>absurd h (by omega)) (NoPanic.normal ?_);clear hK Od
     have Cf:Hid (Lib.IsBuilderF 48 5 b b (Lib.byteCells (pW++oH (t,(v:Int)))) w8/\Below b wo w8):=by
      refine⟨?_,HQ.out.2.1.trans (HD2.out.1.trans (Uj.trans (hBa.trans pU)))⟩;have e:pW++[[32],[if t then 116 else 110],Lib.decDigits v].flatten=pW++oH (t,(v:Int)):=by simp[oH]
      rw[<-e];exact Au
     clear Ui Uj kX hBa Oe Au pU bC HSc
     go_wp2_with fail
     go_roundw
     case rel=>
      refine⟨j+1,by go_num,by omega,?_,Cf.out.2,Ar Cf.out.1⟩;rw[Gg.out];exact Cf.out.1
     case measure=>simp[intOf];omega
    ·have hjj:j=l.length:=by omega
     have hI1:=HQ.out.1;rw[hjj,gH]at hI1;obtain⟨pW,yU⟩:=af (acc++uK (m:Int)++(l.map oH).flatten)
     have ab2:pW.length<=2000:=by
      rw[<-yU,aS,aS];have h1:=HLen.out;have h2:=hsl l.length;rw[gH]at h2;omega
     rw[yU]at hI1
     have HAc:Hid (acc++rA ((m:Int),l)=pW++[10]):=by
      show _=_;rw[<-yU];simp[rA]
     have Og:=Kh (w:=wr.alloc (.cells (nO [[10]]).toArray 9)) (B:=b) (b:=b) (sb:=wr.heap.size) (S:=[[10]]) (acc:=pW) (hI1.alloc _) (heap_alloc_new _ _) (by have:=HQ.out.2.2;omega) (by have:=HQ.out.2.2;simp;omega) (by simp;omega) (by simp);have Uk:Hid (Below b wr (wr.alloc (.cells (nO [[10]]).toArray 9))):=(ai _ _).alloc (iQ HQ.out.2.2) _;simp only[nO,jB,oq]at Og Uk;clear hjj yU hI1
     go_wp2_with
      (go_at_call 54;refine Og.mono ?_;rintro e w8 ⟨rfl,Au,pU,-⟩
       have Cf:Hid (Lib.IsBuilderF 48 5 b b (Lib.byteCells (pW++[10])) w8/\Below b W3 w8):=⟨Au,HR.out.2.1.trans (HQ.out.2.1.trans (Uk.out.trans pU))⟩
       clear Og Au pU)
     go_roundw
     case rel=>
      refine⟨k+1,by go_num,by omega,?_,Cf.out.2,Ar Cf.out.1⟩;rw[mQ.out,HAc.out];exact Cf.out.1
     case measure=>simp[intOf];omega
  ·have hkk:k=R.length:=by omega
   have hI1:=HR.out.1;rw[hkk,gH]at hI1;have st:=R3 b b (nP T N R) wo hI1 (iQ HR.out.2.2);obtain⟨tx,htx⟩:=af ((⟨(nP T N R).toArray⟩:ByteArray));rw[htx]at st;have HTx:Hid ((⟨(nP T N R).toArray⟩:ByteArray)=tx):=htx;clear hkk hI1 htx
   go_wp2_with
    (go_at_call 15;refine st.mono ?_;rintro e w8 ⟨rfl,-,pU,-⟩
     have Gq:Hid (Below b W3 w8):=HR.out.2.1.trans pU
     clear st pU)
   refine aH (v:= .tuple #[.string tx,.int .i64 0]) (by simp[results,Tryz.results24,go_sem]) rfl ?_;exact⟨by rw[HTx.out],(HG.out w8 Gq.out).2.2⟩
end
theorem Oh{N:Nat}{R:List Ru}{O:List Int}(h:nM N R O):∀x∈O,eY x:=by
 intro x hx;obtain⟨i,hi,rfl⟩:=kE hx;have hN:i<N:=by have:=h.len;omega
 have e:O[i]=O.getD i 0:=by simp[List.getD,hi]
 rw[e];unfold eY;by_cases h0:O.getD i 0<0
 ·have:=(h.none i hN h0).1
  omega
 ·have:=(NY (h.some i hN (by omega)).1).2
  unfold lid at this;omega
section
variable{w w':World}{pb B G:Nat}{rv:Value}{p:bW}
theorem ab3{x:Int}(hE:dR G w)(hG:G<=w.heap.size)(hx:eY x):Calls Tryz.prog 68 #[.slice (some ⟨w.heap.size,0,none⟩) 1 1] (w.alloc (.cells #[.int .i64 x] 3)) λe w'=>e= .returned (.string ⟨(iB [x]).toArray⟩)/\Below w.heap.size w w':=by
 have hb:Below w.heap.size w (w.alloc (.cells #[.int .i64 x] 3)):=(ai _ _).alloc (ah _) _;exact(F3 (hE.below hb hG) (aZ hG hb.size) (NT w x) (by simp) (λy hy=>by rw[gG.1 hy];exact hx)).mono λe w' ⟨h1,h2⟩=>⟨h1,hb.trans (h2.mono hb.size)⟩
theorem ab4(h:bR w pb B rv p)(hE:dR G w)(hG:G<=pb)(hm:aJ p.T p.N p.R=true):Calls Tryz.prog 38 #[.pointer (some ⟨pb,0,none⟩)] w λe w'=>e= .returned (.string ⟨(iB [((nP p.T p.N p.R).length:Int)]).toArray⟩)/\Below w.heap.size w w':=by
 obtain⟨c0,c1,c2,-⟩:=h.cells;obtain⟨ra,rc,aI⟩:=h.rules.at.1;subst aI;have pr:=TY (T:=p.T) (N:=p.N) h.rules.at hm
 have hlen:(nP p.T p.N p.R).length<=4611686018427387904:=by
  have hl:=Kj hm;have h1:=Kk hl;have h2:=hl.part p.R.length;rw[gH]at h2;unfold nP;rw[aS];omega
 obtain⟨z,hz⟩:=af (nP p.T p.N p.R);rw[hz]at pr hlen⊢;have hpb:=h.below
 have HT:Hid (∀wq,Below w.heap.size w wq->Calls Tryz.prog 68 #[.slice (some ⟨wq.heap.size,0,none⟩) 1 1] (wq.alloc (.cells #[.int .i64 (z.length:Int)] 3)) λe w'=>e= .returned (.string ⟨(iB [(z.length:Int)]).toArray⟩)/\Below wq.heap.size wq w'):=λwq hq=>
  ab3 (hE.below hq (by omega)) (by have:=hq.size;omega) ⟨by omega,by omega⟩
 clear h hE hz hm
 go_enter Tryz.func38,Tryz.ntmps38
 go_wp2_with
  (first
   |(go_at_call 24;refine pr.mono ?_;rintro e w2 ⟨rfl,h2⟩
     have dg:=HT.out w2 h2;have H2:Hid (Below w.heap.size w w2):=h2
     clear pr h2)
   |(go_at_call 68;refine dg.mono ?_;rintro e w3 ⟨rfl,h3⟩
     have H3:Hid (Below w.heap.size w w3):=H2.out.trans (h3.mono H2.out.size)
     clear dg h3))
 go_ret;exact⟨rfl,H3.out⟩
theorem ab5(h:bR w pb B rv p)(hE:dR G w)(hG:G<=pb)(hm:aJ p.T p.N p.R=true):Calls Tryz.prog 36 #[.pointer (some ⟨pb,0,none⟩)] w λe w'=> ∃O,nM p.N p.R O/\e= .returned (.string ⟨(iB O).toArray⟩)/\Below w.heap.size w w':=by
 obtain⟨c0,c1,c2,-⟩:=h.cells;obtain⟨ra,rc,aI⟩:=h.rules.at.1;subst aI;have sh:=TL (T:=p.T) (N:=p.N) h.rules.at hm;have hN:=(iD hm).2.2.1;have hpb:=h.below
 have HT:Hid (∀wq g O,Below w.heap.size w wq->fO wq w.heap.size g p.N O->nM p.N p.R O->Calls Tryz.prog 68 #[.slice (some ⟨g,0,none⟩) p.N p.N] wq λe w'=>e= .returned (.string ⟨(iB O).toArray⟩)/\Below wq.heap.size wq w'):=λwq g O hq hr hi=>
  F3 (hE.below hq (by omega)) (by have:=hq.size;omega) hr.list (by have:=hr.len;omega) (Oh hi)
 clear h hE hm
 go_enter Tryz.func36,Tryz.ntmps36
 go_wp2_with
  (first
   |(go_at_call 21;refine sh.mono ?_;rintro e w2 ⟨g,O,rfl,h2,h3,h4⟩
     have dg:=HT.out w2 g O h2 h3 h4;have H2:Hid (Below w.heap.size w w2/\nM p.N p.R O):=⟨h2,h4⟩
     clear sh h2 h3 h4)
   |(go_at_call 68;refine dg.mono ?_;rintro e w3 ⟨rfl,h3⟩
     have H3:Hid (Below w.heap.size w w3):=H2.out.1.trans (h3.mono H2.out.1.size)
     clear dg h3))
 go_ret;exact⟨O,H2.out.2,rfl,H3.out⟩
end
end Go.Proofs.YthbifaoaiggooaaGreatDoor
namespace Go.Proofs.YthbifaoaiggooaaGreatDoor
def oI(A:Int->List Int->Prop):List Sy->List Int->Prop
 | [],Z=>Z=[]
 |(true,v)::l,Z=> ∃Z',Z=v::Z'/\oI A l Z'
 |(false,n)::l,Z=> ∃Z1 Z2,Z=Z1++Z2/\A n Z1/\oI A l Z2
def Gr(R:List Ru)(A:Int->List Int->Prop)(n:Int)(Z:List Int):Prop:=∃r∈R,r.1=n/\oI A r.2 Z
def xH(R:List Ru):Nat->Int->List Int->Prop
 |0,_,_=>False
 |k+1,n,Z=>Gr R (xH R k) n Z
def nQ(R:List Ru)(n:Int)(Z:List Int):Prop:=∃k,xH R k n Z
theorem oI.mono{A B:Int->List Int->Prop}(h:∀n Z,A n Z->B n Z):∀{l:List Sy} {Z:List Int},oI A l Z->oI B l Z:=by
 intro l
 induction l with
 |nil=>intro Z hZ;exact hZ
 |cons s l ih=>
  intro Z hZ;obtain⟨b,n⟩:=s;cases b with
  |true=>obtain⟨Z',h1,h2⟩:=hZ;exact⟨Z',h1,ih h2⟩
  |false=>obtain⟨Z1,Z2,h1,h2,h3⟩:=hZ;exact⟨Z1,Z2,h1,h _ _ h2,ih h3⟩
theorem Gr.mono{R:List Ru}{A B:Int->List Int->Prop}(h:∀n Z,A n Z->B n Z){n:Int}{Z:List Int}(hZ:Gr R A n Z):Gr R B n Z:=by
 obtain⟨r,h1,h2,h3⟩:=hZ;exact⟨r,h1,h2,h3.mono h⟩
theorem ab6{R:List Ru}:∀k n Z,xH R k n Z->xH R (k+1) n Z:=by
 intro k
 induction k with
 |zero=>intro n Z h;exact h.elim
 |succ k ih=>intro n Z h;exact Gr.mono ih h
theorem Ul{R:List Ru}{k m:Nat}(h:k<=m):∀n Z,xH R k n Z->xH R m n Z:=by
 induction h with
 |refl=>intro n Z h;exact h
 |step _ ih=>intro n Z h;exact ab6 _ _ _ (ih n Z h)
theorem ab7{R:List Ru}:∀{l:List Sy} {Z:List Int},oI (nQ R) l Z->∃k,oI (xH R k) l Z:=by
 intro l
 induction l with
 |nil=>intro Z h;exact⟨0,h⟩
 |cons s l ih=>
  intro Z h;obtain⟨b,n⟩:=s;cases b with
  |true=>
   obtain⟨Z',h1,h2⟩:=h;obtain⟨k,hk⟩:=ih h2;exact⟨k,Z',h1,hk⟩
  |false=>
   obtain⟨Z1,Z2,h1,⟨m,h2⟩,h3⟩:=h;obtain⟨k,hk⟩:=ih h3;exact⟨max m k,Z1,Z2,h1,Ul (Nat.le_max_left _ _) _ _ h2,hk.mono (Ul (Nat.le_max_right _ _))⟩
theorem ab8{R:List Ru}{r:Ru}(hr:r∈R){Z:List Int}(h:oI (nQ R) r.2 Z):nQ R r.1 Z:=by
 obtain⟨k,hk⟩:=ab7 h;exact⟨k+1,r,hr,rfl,hk⟩
section
variable{R:List Ru}
end
def part(tok:List Int)(i j:Nat):List Int:=(tok.drop i).take (j-i)
theorem Um(tok:List Int)(i:Nat):part tok i i=[]:=by simp[part]
theorem Un(tok:List Int):part tok 0 tok.length=tok:=by simp[part]
theorem Km{tok:List Int}{i j:Nat}(h:i<=j)(hj:j<=tok.length):(part tok i j).length=j-i:=by
 simp[part];omega
theorem Uo{tok:List Int}{i j:Nat}(h:i<j)(hj:j<=tok.length):part tok i j=tok.getD i 0::part tok (i+1) j:=by
 have hi:i<tok.length:=by omega
 unfold part;rw[wO hi,show j-i=(j-(i+1))+1 by omega,List.take_succ_cons];simp[List.getD,hi]
theorem Oi{tok:List Int}{i m j:Nat}(h1:i<=m)(h2:m<=j):part tok i j=part tok i m++part tok m j:=by
 unfold part;have e:tok.drop m=(tok.drop i).drop (m-i):=by rw[List.drop_drop];congr 1;omega
 rw[e,show j-i=(m-i)+(j-m) by omega,List.take_add]
theorem ab9{tok Z1 Z2:List Int}{i j:Nat}(h:i<=j)(hj:j<=tok.length)(e:part tok i j=Z1++Z2):i+Z1.length<=j/\Z1=part tok i (i+Z1.length)/\Z2=part tok (i+Z1.length) j:=by
 have hl:=Km h hj;have hl2:Z1.length+Z2.length=j-i:=by rw[<-hl,e];simp
 have hle:i+Z1.length<=j:=by omega
 have e2:=Oi (tok:=tok) (i:=i) (m:=i+Z1.length) (j:=j) (by omega) hle;rw[e]at e2;have hl3:(part tok i (i+Z1.length)).length=Z1.length:=by rw[Km (by omega) (by omega)];omega
 obtain⟨a,b⟩:=List.append_inj e2 hl3.symm;exact⟨hle,a,b⟩
section
variable{K:Nat->Nat->Nat->Bool}{tok:List Int}{upto:Nat}
end
end Go.Proofs.YthbifaoaiggooaaGreatDoor
