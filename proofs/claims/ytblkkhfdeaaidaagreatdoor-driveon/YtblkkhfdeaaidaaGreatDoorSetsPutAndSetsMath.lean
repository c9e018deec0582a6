import Derived.Test.YtblkkhfdeaaidaaGreatDoorTkTabAndGrow
import Derived.Deep.DrawnRows
import Derived.Test.YtblkkhfdeaaidaaGreatDoorTxPaAndLfp
set_option maxHeartbeats 3200000
set_option maxRecDepth 100000
namespace Go.Proofs.YtblkkhfdeaaidaaGreatDoor
open Go.RowKit
inductive Iy where
 |null|gr
 |f (n:Nat)
 |g (n:Nat)
 deriving DecidableEq
abbrev Xs:=Iy->List Bool
def jb(X:Xs)(i:Iy)(m:Nat):Xs:=if bit X i m then X else aU (aU X i m true) .gr 0 true
def eH(i j:Iy)(n:Nat)(X:Xs):Xs:=aK n (fun m Y=>if bit Y j m then jb Y i m else Y) X
def aV(T:Nat)(i:Iy):List Sy->Xs->Xs×Bool
 | [],X=>(X,true)
 |s::l,X=>if s.1 then (jb X i s.2.toNat,false) else
  if bit (eH i (.f s.2.toNat) T X) .null s.2.toNat then aV T i l (eH i (.f s.2.toNat) T X) else (eH i (.f s.2.toNat) T X,false)
def bA(T N:Nat):Iy->Option Nat
 | .null=>some N
 | .gr=>some 1
 | .f n=>if n<N then some T else none
 | .g n=>if n<N then some (T+1) else none
def ay(T N:Nat)(nv:Value)(vf vg:Nat->Value)(gb:Nat):dw Iy:=
 ⟨fun| .null=>nv| .gr=> .slice (some ⟨gb,0,none⟩) 1 1| .f n=>vf n| .g n=>vg n,bA T N⟩
def iV(w:World)(K:Nat->Prop)(N:Nat)(fv:Value)(vs:Nat->Value):Prop:=
 (∃a c,fv= .slice a N c)/\∀n,n<N->∃g c,fv= .slice (some ⟨g,0,none⟩) N c/\¬K g/\w.cell? ⟨g,n,none⟩=some (vs n)
theorem iV.kept{w w':World}{K:Nat->Prop}{N:Nat}{fv:Value}{vs:Nat->Value}(h:iV w K N fv vs)(hk:Kept K w w'):iV w' K N fv vs:=
 ⟨h.1,fun n hn=>let ⟨g,c,h1,h2,h3⟩:=h.2 n hn;⟨g,c,h1,h2,hk.cell h2 h3⟩⟩
section
variable{T N:Nat}{nv:Value}{vf vg:Nat->Value}{gb:Nat}
theorem LK(T N:Nat)(nv:Value)(vf vg:Nat->Value)(gb:Nat):Mark (ay T N nv vf vg gb) .gr gb:=⟨rfl,rfl⟩
theorem Ty{w:World}{B n m:Nat}{i:Iy}{X:Xs}(h:Bt w B (ay T N nv vf vg gb) X)(hd:bA T N i=some n)(hm:m<n)(hi:i≠ .gr):
 Calls Tryz.prog 73 #[(ay T N nv vf vg gb).V i,.int .i64 m,.pointer (some ⟨gb,0,none⟩)] w fun e w'=>e= .returned (.tuple #[])/\Bt w' B (ay T N nv vf vg gb) (jb X i m)/\Kept (ay T N nv vf vg gb).K w w':=G7 h (LK T N nv vf vg gb) hd hm hi
theorem TA{w:World}{B n nj:Nat}{i j:Iy}{X:Xs}(h:Bt w B (ay T N nv vf vg gb) X)(hd:bA T N i=some n)(hdj:bA T N j=some nj)(hle:nj<=n)(hi:i≠ .gr)(hs:nj<=1000):
 Calls Tryz.prog 75 #[(ay T N nv vf vg gb).V i,(ay T N nv vf vg gb).V j,.func (.func 73) #[] #[.pointer (some ⟨gb,0,none⟩)]] w fun e w'=>e= .returned (.tuple #[])/\Bt w' B (ay T N nv vf vg gb) (eH i j nj X)/\Kept (ay T N nv vf vg gb).K w w':=ab5 h (LK T N nv vf vg gb) hd hdj hle hi hs
theorem TB{w:World}{B n lc gl gc:Nat}{fv:Value}{la ga:Option Addr}{i:Iy}{X:Xs}{l:List Sy}(h:Bt w B (ay T N nv vf vg gb) X)(hB:B<=w.heap.size)(hd:bA T N i=some n)(xO:T<=n)(hi:i≠ .gr)
 (hF:iV w (ay T N nv vf vg gb).K N fv vf) (hl:fq w B la l) (hin:∀s∈l,0<=s.2/\s.2<if s.1 then (T:Int) else (N:Int)) (hT:T<=1000) (h8:l.length<=1000):
 Calls Tryz.prog 74 #[.agg #[nv,fv,.slice ga gl gc],(ay T N nv vf vg gb).V i,.slice la l.length lc,.func (.func 73) #[] #[.pointer (some ⟨gb,0,none⟩)]] w fun e w'=>
  e= .returned (.bool (aV T i l X).2)/\Bt w' B (ay T N nv vf vg gb) (aV T i l X).1/\Kept (ay T N nv vf vg gb).K w w':=by
 obtain⟨ia,ic,tV⟩:=Bt.slice h hd;obtain⟨na,nc,rM⟩:=Bt.slice (i:=Iy.null) (n:=N) h rfl;have ze:nv= .slice na N nc:=rM;clear rM;obtain⟨fa,fc,o8⟩:=hF.1;subst ze;subst o8;have HB:Hid (Bt w B (ay T N (.slice na N nc) vf vg gb) X):=h;have HV:Hid ((ay T N (.slice na N nc) vf vg gb).V i= .slice ia n ic):=tV;have HF:Hid (iV w (ay T N (.slice na N nc) vf vg gb).K N (.slice fa N fc) vf):=hF;have HL:Hid (fq w B la l):=hl;have HI:Hid (∀s∈l,0<=s.2/\s.2<if s.1 then (T:Int) else (N:Int)):=hin;rw[tV];clear h tV hF hl hin
 go_enter Tryz.func74,Tryz.ntmps74
 go_wp2_with fail
 go_loopw [13] (fun s wr=> ∃k:Nat,s= .int .i64 k/\k<=l.length/\∃Y,aV T i l X=aV T i (l.drop k) Y/\Bt wr B (ay T N (.slice na N nc) vf vg gb) Y/\
  Kept (ay T N (.slice na N nc) vf vg gb).K (w.alloc (.cells #[.slice na N nc,.slice fa N fc,.slice ga gl gc] 56)) wr) (fun s _=>l.length-(intOf s).toNat)
 case atStart=>exact⟨0,rfl,Nat.zero_le _,X,rfl,Bt.alloc HB.out _,Kept.refl _ _⟩
 case round=>
  obtain⟨k,rfl,hk,Y,hY,hBr,hKr⟩:=hrel;have HY:Hid (aV T i l X=aV T i (l.drop k) Y):=hY;have gu:Hid (Bt wr B (ay T N (.slice na N nc) vf vg gb) Y):=hBr;have lM:Hid (Kept (ay T N (.slice na N nc) vf vg gb).K (w.alloc (.cells #[.slice na N nc,.slice fa N fc,.slice ga gl gc] 56)) wr):=hKr;have ou:Hid (Kept (ay T N (.slice na N nc) vf vg gb).K w wr):=((Kept.refl _ _).alloc _).trans hKr;have hsz:w.heap.size+1<=wr.heap.size:=by have:=hKr.size;simpa using this
  have b0:wr.cell? ⟨w.heap.size,0,none⟩=some (.slice na N nc):=hKr.cell (Bt.gU HB.out (Nat.le_refl _)) (by simp[go_sem]);have b1:wr.cell? ⟨w.heap.size,1,none⟩=some (.slice fa N fc):=hKr.cell (Bt.gU HB.out (Nat.le_refl _)) (by simp[go_sem]);have xP:Hid (Below B w wr):=ou.out.below (fun b hb=>Bt.ge HB.out hb) hB;clear hY hBr hKr;by_cases hlt:k<l.length
  ·obtain⟨b',o',oO,hb',k3,k4⟩:=HL.out k hlt
   subst oO;have hmem:l.getD k (false,0)∈l:=by simp[List.getD,hlt]
   have hin:=HI.out _ hmem;have hdrop:l.drop k=l.getD k (false,0)::l.drop (k+1):=by rw[List.drop_eq_getElem_cons hlt];simp[List.getD,hlt]
   obtain⟨⟨t,v⟩,hsy⟩:∃x,l.getD k (false,0)=x:=⟨_,rfl⟩;rw[hsy]at k3 k4 hin hdrop;simp only at hin;obtain⟨y,rfl⟩:∃y:Nat,v=y:=⟨v.toNat,by omega⟩;have Cn:wr.cell? ⟨b',o'+k*2,none⟩=some (.bool t):=(xP.out.cell (p:=⟨b',o'+k*2,none⟩) hb').trans k3;have zX:wr.cell? ⟨b',o'+k*2+1,none⟩=some (.int .i64 y):=by rw[Nat.add_assoc];exact(xP.out.cell (p:=⟨b',o'+(k*2+1),none⟩) hb').trans k4
   have j0:(0:Int)<=(k:Int):=Int.natCast_nonneg _;have j1:(k:Int)<(l.length:Int):=by omega
   have m0:(wr.alloc (.cells #[.bool t,.int .i64 y] 116)).cell? ⟨w.heap.size,0,none⟩=some (.slice na N nc):=by rw[World.cell?_alloc_past _ _ _ (by omega)];exact b0
   have m1:(wr.alloc (.cells #[.bool t,.int .i64 y] 116)).cell? ⟨w.heap.size,1,none⟩=some (.slice fa N fc):=by rw[World.cell?_alloc_past _ _ _ (by omega)];exact b1
   have HA:Hid (Bt (wr.alloc (.cells #[.bool t,.int .i64 y] 116)) B (ay T N (.slice na N nc) vf vg gb) Y):=Bt.alloc gu.out _;have lU:Hid (Kept (ay T N (.slice na N nc) vf vg gb).K w (wr.alloc (.cells #[.bool t,.int .i64 y] 116))):=ou.out.alloc _;have HD:Hid (l.drop k=(t,(y:Int))::l.drop (k+1)):=hdrop;clear hmem hsy k3 k4 b0 b1 hdrop;cases t with
   |true=>
    have hyT:y<T:=by simp at hin;omega
    have put:=Ty HA.out hd (m:=y) (by omega) hi;rw[HV.out]at put
    have HP:Hid (aV T i l X=(jb Y i y,false)):=by
     show aV T i l X=_;rw[HY.out,HD.out];simp[aV]
    clear hin
    go_wp2_with (go_at_call 73;refine put.mono ?_;rintro e w2 ⟨rfl,hB2,hK2⟩)
    go_ret;exact⟨by rw[HP.out];rfl,by rw[HP.out];exact hB2,lU.out.trans hK2⟩
   |false=>
    have vM:y<N:=by simp at hin;omega
    have all:=TA (i:=i) (j:= .f y) (nj:=T) HA.out hd (by simp[bA,vM]) xO hi hT;rw[HV.out]at all;have all':Calls Tryz.prog 75 #[.slice ia n ic,vf y,.func (.func 73) #[] #[.pointer (some ⟨gb,0,none⟩)]] _ _:=all;obtain⟨fg,fc',hfe,hnK,k5⟩:=HF.out.2 y vM;cases hfe;have k6:(wr.alloc (.cells #[.bool false,.int .i64 y] 116)).cell? ⟨fg,y,none⟩=some (vf y):=lU.out.cell hnK k5;have j2:(0:Int)<=(y:Int):=Int.natCast_nonneg _;have j3:(y:Int)<(N:Int):=by omega
    have HP:Hid (aV T i l X=if bit (eH i (.f y) T Y) .null y then aV T i (l.drop (k+1)) (eH i (.f y) T Y) else (eH i (.f y) T Y,false)):=by
     show aV T i l X=_;rw[HY.out,HD.out];simp[aV]
    clear hin k5 all;cases hz:bit (eH i (.f y) T Y) .null y with
    |true=>
     rw[hz]at HP;have HZ:Hid (bit (eH i (.f y) T Y) .null y=true):=hz;clear hz
     go_wp2_with
      (go_at_call 75;refine all'.mono ?_;rintro e w2 ⟨rfl,hB2,hK2⟩
       have n0:=hK2.cell (p:=⟨w.heap.size,0,none⟩) (Bt.gU HB.out (Nat.le_refl _)) m0;have n2:=hK2.cell (p:=⟨wr.heap.size,1,none⟩) (Bt.gU gu.out (Nat.le_refl _)) (v:= .int .i64 y) (by simp[go_sem]);obtain⟨ng,TD,hne,_,_⟩:=Bt.form (i:=Iy.null) (n:=N) hB2 rfl (by omega);cases hne;obtain⟨n3,_⟩:=Bt.cell (i:=Iy.null) (n:=N) hB2 rfl rfl vM;rw[HZ.out]at n3;have HB2:Hid (Bt w2 B _ _):=hB2;have dP:Hid (Kept _ _ w2):=hK2
       clear hB2 hK2)
     go_roundw
     case rel=>exact⟨k+1,by go_num,by omega,_,HP.out,HB2.out,(lM.out.alloc _).trans dP.out⟩
     case measure=>simp[intOf];omega
    |false=>
     rw[hz]at HP;have HZ:Hid (bit (eH i (.f y) T Y) .null y=false):=hz;clear hz
     go_wp2_with
      (go_at_call 75;refine all'.mono ?_;rintro e w2 ⟨rfl,hB2,hK2⟩
       have n0:=hK2.cell (p:=⟨w.heap.size,0,none⟩) (Bt.gU HB.out (Nat.le_refl _)) m0;have n2:=hK2.cell (p:=⟨wr.heap.size,1,none⟩) (Bt.gU gu.out (Nat.le_refl _)) (v:= .int .i64 y) (by simp[go_sem]);obtain⟨ng,TD,hne,_,_⟩:=Bt.form (i:=Iy.null) (n:=N) hB2 rfl (by omega);cases hne;obtain⟨n3,_⟩:=Bt.cell (i:=Iy.null) (n:=N) hB2 rfl rfl vM;rw[HZ.out]at n3;have HB2:Hid (Bt w2 B _ _):=hB2;have dP:Hid (Kept _ _ w2):=hK2
       clear hB2 hK2)
     go_ret;exact⟨by rw[HP.out];rfl,by rw[HP.out];exact HB2.out,lU.out.trans dP.out⟩
  ·obtain rfl:k=l.length:=by omega
   have HP:Hid (aV T i l X=(Y,true)):=by
    show aV T i l X=_;rw[HY.out,List.drop_length];rfl
   go_wp2_with fail
   go_ret;exact⟨by rw[HP.out];rfl,by rw[HP.out];exact gu.out,ou.out⟩
end
def jy(T:Nat)(L:Nat)(l:List Sy)(X:Xs):Xs:=if (aV T (.f L) l X).2 then jb (aV T (.f L) l X).1 .null L else (aV T (.f L) l X).1
def ny(T:Nat)(L:Nat)(l:List Sy)(k:Nat)(Y:Xs):Xs:=
 if (l.getD k (false,0)).1 then Y else
  if (aV T (.g (l.getD k (false,0)).2.toNat) (l.drop (k+1)) Y).2 then eH (.g (l.getD k (false,0)).2.toNat) (.g L) (T+1) (aV T (.g (l.getD k (false,0)).2.toNat) (l.drop (k+1)) Y).1
  else (aV T (.g (l.getD k (false,0)).2.toNat) (l.drop (k+1)) Y).1
def G9(T:Nat)(L:Nat)(l:List Sy)(X:Xs):Xs:=aK l.length (ny T L l) X
theorem fq.drop{w:World}{B b o c:Nat}{l:List Sy}(h:fq w B (some ⟨b,o,none⟩) l)(n:Nat)(hc:l.length<=c)(hn:n<=l.length):
 fq w B (if c=n then some ⟨b,o,none⟩ else some ⟨b,o+n*2,none⟩) (l.drop n):=fun j hj=>by
 have hl:(l.drop n).length=l.length-n:=by simp
 rw[hl]at hj;obtain⟨b',o',e,h0,h1,h2⟩:=h (n+j) (by omega);cases e;have hg:(l.drop n).getD j (false,0)=l.getD (n+j) (false,0):=by simp[List.getD]
 refine⟨b,o+n*2,by rw[if_neg (by omega)],h0,?_,?_⟩
 ·rw[hg,<-h1];congr 2;omega
 ·rw[hg,<-h2];congr 2;omega
section
variable{T N:Nat}{nv:Value}{vf vg:Nat->Value}{gb:Nat}
theorem ab6{w:World}{B lc L gl gc:Nat}{fv:Value}{la ga:Option Addr}{X:Xs}{l:List Sy}(h:Bt w B (ay T N nv vf vg gb) X)(hB:B<=w.heap.size)(hL:L<N)
 (hF:iV w (ay T N nv vf vg gb).K N fv vf) (hl:fq w B la l) (hin:∀s∈l,0<=s.2/\s.2<if s.1 then (T:Int) else (N:Int)) (hT:T<=1000) (h8:l.length<=1000):
 Calls Tryz.prog 53 #[.agg #[nv,fv,.slice ga gl gc],.agg #[.int .i64 L,.slice la l.length lc],.func (.func 73) #[] #[.pointer (some ⟨gb,0,none⟩)]] w fun e w'=>
  e= .returned (.tuple #[])/\Bt w' B (ay T N nv vf vg gb) (jy T L l X)/\Kept (ay T N nv vf vg gb).K w w':=by
 obtain⟨na,nc,rM⟩:=Bt.slice (i:=Iy.null) (n:=N) h rfl;have ze:nv= .slice na N nc:=rM;clear rM;obtain⟨fg,fc,o8,hfK,hfc⟩:=hF.2 L hL;subst ze;subst o8;obtain⟨ia,ic,tV⟩:=Bt.slice (i:=Iy.f L) (n:=T) h (by simp[ay,bA,hL]);have ab7:vf L= .slice ia T ic:=tV;have Eh:Kept (ay T N (.slice na N nc) vf vg gb).K w ((w.alloc (.cells #[.slice na N nc,.slice (some ⟨fg,0,none⟩) N fc,.slice ga gl gc] 56)).alloc (.cells #[.int .i64 L,.slice la l.length lc] 91)):=((Kept.refl _ _).alloc _).alloc _
 have first:=TB (w:=((w.alloc (.cells #[.slice na N nc,.slice (some ⟨fg,0,none⟩) N fc,.slice ga gl gc] 56)).alloc (.cells #[.int .i64 L,.slice la l.length lc] 91)).drew)
  (i:= .f L) (lc:=lc) (gl:=gl) (gc:=gc) (ga:=ga) (Bt.drew (Bt.alloc (Bt.alloc h _) _)) (by show B<=((w.alloc _).alloc _).heap.size;simp;omega) (n:=T) (by simp[bA,hL]) (Nat.le_refl _) (by simp) (hF.kept Eh.drew) (hl.below (Eh.drew.below (fun b hb=>Bt.ge h hb) hB)) hin hT h8
 have first':Calls Tryz.prog 74 #[.agg #[.slice na N nc,.slice (some ⟨fg,0,none⟩) N fc,.slice ga gl gc],vf L,.slice la l.length lc,.func (.func 73) #[] #[.pointer (some ⟨gb,0,none⟩)]] _ _:=first
 rw[ab7]at first';have HB:Hid (Bt w B (ay T N (.slice na N nc) vf vg gb) X):=h;have ou:Hid (Kept (ay T N (.slice na N nc) vf vg gb).K w ((w.alloc (.cells #[.slice na N nc,.slice (some ⟨fg,0,none⟩) N fc,.slice ga gl gc] 56)).alloc (.cells #[.int .i64 L,.slice la l.length lc] 91))):=Eh;have k6:((w.alloc (.cells #[.slice na N nc,.slice (some ⟨fg,0,none⟩) N fc,.slice ga gl gc] 56)).alloc (.cells #[.int .i64 L,.slice la l.length lc] 91)).cell? ⟨fg,L,none⟩=some (vf L):=Eh.cell hfK hfc;have j2:(0:Int)<=(L:Int):=Int.natCast_nonneg _;have j3:(L:Int)<(N:Int):=by omega
 clear h hF hl hin Eh first hfc tV
 go_enter Tryz.func53,Tryz.ntmps53
 go_upto_region 2 with fail
 go_cut [16] from 6 to 22 (fun s16 wx=>s16= .bool (aV T (.f L) l X).2/\Bt wx B (ay T N (.slice na N nc) vf vg gb) (aV T (.f L) l X).1/\
  Kept (ay T N (.slice na N nc) vf vg gb).K ((w.alloc (.cells #[.slice na N nc,.slice (some ⟨fg,0,none⟩) N fc,.slice ga gl gc] 56)).alloc (.cells #[.int .i64 L,.slice la l.length lc] 91)) wx)
 case first=>
  refine sM 10 (by kernel_rfl) (by kernel_rfl) ?_;simp only[List.take_succ_cons,List.take_zero,List.drop_succ_cons,List.drop_zero]
  repeat still_step
  refine wpStill_nil ?_
  go_wp2_with (go_at_call 74;refine first'.mono ?_;rintro e w2 ⟨rfl,hB2,hK2⟩)
  go_meet
  case rel=>exact⟨rfl,hB2,(Kept.refl _ _).drew.trans hK2⟩
 case rest=>
  obtain⟨rfl,hB2,hK2⟩:=hcut;have b0:=hK2.cell (p:=⟨w.heap.size,0,none⟩) (Bt.gU HB.out (Nat.le_refl _)) (v:= .slice na N nc) (by simp[go_sem]);have b1:=hK2.cell (p:=⟨w.heap.size+1,0,none⟩) (Bt.gU HB.out (Nat.le_succ _)) (v:= .int .i64 L) (by simp[go_sem]);have HB2:Hid (Bt wc B (ay T N (.slice na N nc) vf vg gb) (aV T (.f L) l X).1):=hB2;have dP:Hid (Kept (ay T N (.slice na N nc) vf vg gb).K w wc):=ou.out.trans hK2;clear hB2 hK2 first' k6;cases hz:(aV T (.f L) l X).2 with
  |true=>
   have put:=Ty (i:= .null) HB2.out (n:=N) rfl hL (by simp);have put':Calls Tryz.prog 73 #[.slice na N nc,.int .i64 L,.pointer (some ⟨gb,0,none⟩)] _ _:=put;have HP:Hid (jy T L l X=jb (aV T (.f L) l X).1 .null L):=by show jy T L l X=_;simp[jy,hz]
   clear hz put
   go_wp2_with (go_at_call 73;refine put'.mono ?_;rintro e w2 ⟨rfl,hB3,hK3⟩)
   go_end0
   exact⟨rfl,by rw[HP.out];exact hB3,dP.out.trans hK3⟩
  |false=>
   have HP:Hid (jy T L l X=(aV T (.f L) l X).1):=by show jy T L l X=_;simp[jy,hz]
   clear hz
   go_wp2_with fail
   go_end0
   exact⟨rfl,by rw[HP.out];exact HB2.out,dP.out⟩
end
section
variable{T N:Nat}{nv:Value}{vf vg:Nat->Value}{gb:Nat}
theorem ab8{w:World}{B lc L:Nat}{fv gv:Value}{la:Option Addr}{X:Xs}{l:List Sy}(h:Bt w B (ay T N nv vf vg gb) X)(hB:B<=w.heap.size)(hL:L<N)(hlc:l.length<=lc)
 (hF:iV w (ay T N nv vf vg gb).K N fv vf) (hG:iV w (ay T N nv vf vg gb).K N gv vg) (hl:fq w B la l) (hin:∀s∈l,0<=s.2/\s.2<if s.1 then (T:Int) else (N:Int)) (hT:T<=900) (h8:l.length<=1000):
 Calls Tryz.prog 54 #[.agg #[nv,fv,gv],.agg #[.int .i64 L,.slice la l.length lc],.func (.func 73) #[] #[.pointer (some ⟨gb,0,none⟩)]] w fun e w'=>
  e= .returned (.tuple #[])/\Bt w' B (ay T N nv vf vg gb) (G9 T L l X)/\Kept (ay T N nv vf vg gb).K w w':=by
 obtain⟨na,nc,rM⟩:=Bt.slice (i:=Iy.null) (n:=N) h rfl;have ze:nv= .slice na N nc:=rM;clear rM;obtain⟨fa,fc,o8⟩:=hF.1;obtain⟨gg,gc,hgv,TF,TG⟩:=hG.2 L hL;subst ze;subst o8;subst hgv;have HB:Hid (Bt w B (ay T N (.slice na N nc) vf vg gb) X):=h;have HF:Hid (iV w (ay T N (.slice na N nc) vf vg gb).K N (.slice fa N fc) vf):=hF;have HG:Hid (iV w (ay T N (.slice na N nc) vf vg gb).K N (.slice (some ⟨gg,0,none⟩) N gc) vg):=hG;have HL:Hid (fq w B la l):=hl;have HI:Hid (∀s∈l,0<=s.2/\s.2<if s.1 then (T:Int) else (N:Int)):=hin;have HgL:Hid (w.cell? ⟨gg,L,none⟩=some (vg L)):=TG;clear h hF hG hl hin TG
 go_enter Tryz.func54,Tryz.ntmps54
 go_wp2_with fail
 go_loopw [12] (fun s wr=> ∃k:Nat,s= .int .i64 k/\k<=l.length/\Bt wr B (ay T N (.slice na N nc) vf vg gb) (aK k (ny T L l) X)/\
  Kept (ay T N (.slice na N nc) vf vg gb).K ((w.alloc (.cells #[.slice na N nc,.slice fa N fc,.slice (some ⟨gg,0,none⟩) N gc] 56)).alloc (.cells #[.int .i64 L,.slice la l.length lc] 91)) wr) (fun s _=>l.length-(intOf s).toNat)
 case atStart=>exact⟨0,rfl,Nat.zero_le _,Bt.alloc (Bt.alloc HB.out _) _,Kept.refl _ _⟩
 case round=>
  obtain⟨k,rfl,hk,hBr,hKr⟩:=hrel;obtain⟨Y,hY⟩:∃Y,aK k (ny T L l) X=Y:=⟨_,rfl⟩;rw[hY]at hBr;have HY:Hid (aK k (ny T L l) X=Y):=hY;have gu:Hid (Bt wr B (ay T N (.slice na N nc) vf vg gb) Y):=hBr;have lM:Hid (Kept (ay T N (.slice na N nc) vf vg gb).K ((w.alloc (.cells #[.slice na N nc,.slice fa N fc,.slice (some ⟨gg,0,none⟩) N gc] 56)).alloc (.cells #[.int .i64 L,.slice la l.length lc] 91)) wr):=hKr;have ou:Hid (Kept (ay T N (.slice na N nc) vf vg gb).K w wr):=(((Kept.refl _ _).alloc _).alloc _).trans hKr;have hsz:w.heap.size+2<=wr.heap.size:=by have:=hKr.size;simp at this;omega
  have b0:wr.cell? ⟨w.heap.size,0,none⟩=some (.slice na N nc):=hKr.cell (Bt.gU HB.out (Nat.le_refl _)) (by simp[go_sem]);have b1:wr.cell? ⟨w.heap.size,1,none⟩=some (.slice fa N fc):=hKr.cell (Bt.gU HB.out (Nat.le_refl _)) (by simp[go_sem]);have b2:wr.cell? ⟨w.heap.size,2,none⟩=some (.slice (some ⟨gg,0,none⟩) N gc):=hKr.cell (Bt.gU HB.out (Nat.le_refl _)) (by simp[go_sem]);have b3:wr.cell? ⟨w.heap.size+1,0,none⟩=some (.int .i64 L):=hKr.cell (Bt.gU HB.out (Nat.le_succ _)) (by simp[go_sem]);have b4:wr.cell? ⟨w.heap.size+1,1,none⟩=some (.slice la l.length lc):=hKr.cell (Bt.gU HB.out (Nat.le_succ _)) (by simp[go_sem]);have xP:Hid (Below B w wr):=ou.out.below (fun b hb=>Bt.ge HB.out hb) hB;clear hY hBr hKr;by_cases hlt:k<l.length
  ·obtain⟨b',o',oO,hb',k3,k4⟩:=HL.out k hlt
   subst oO;have hmem:l.getD k (false,0)∈l:=by simp[List.getD,hlt]
   have hin:=HI.out _ hmem;obtain⟨⟨t,v⟩,hsy⟩:∃x,l.getD k (false,0)=x:=⟨_,rfl⟩
   have hstep:aK (k+1) (ny T L l) X=if t then Y else if (aV T (.g v.toNat) (l.drop (k+1)) Y).2 then eH (.g v.toNat) (.g L) (T+1) (aV T (.g v.toNat) (l.drop (k+1)) Y).1 else (aV T (.g v.toNat) (l.drop (k+1)) Y).1:=by
    rw[aK,HY.out,ny,hsy]
   rw[hsy]at k3 k4 hin;simp only at hin;obtain⟨y,rfl⟩:∃y:Nat,v=y:=⟨v.toNat,by omega⟩;have Cn:wr.cell? ⟨b',o'+k*2,none⟩=some (.bool t):=(xP.out.cell (p:=⟨b',o'+k*2,none⟩) hb').trans k3;have zX:wr.cell? ⟨b',o'+k*2+1,none⟩=some (.int .i64 y):=by rw[Nat.add_assoc];exact(xP.out.cell (p:=⟨b',o'+(k*2+1),none⟩) hb').trans k4
   have j0:(0:Int)<=(k:Int):=Int.natCast_nonneg _;have j1:(k:Int)<(l.length:Int):=by omega
   have HA:Hid (Bt (wr.alloc (.cells #[.bool t,.int .i64 y] 116)) B (ay T N (.slice na N nc) vf vg gb) Y):=Bt.alloc gu.out _;have lU:Hid (Kept (ay T N (.slice na N nc) vf vg gb).K wr (wr.alloc (.cells #[.bool t,.int .i64 y] 116))):=(Kept.refl _ _).alloc _;clear hmem hsy k3 k4;cases t with
   |true=>
    have HS:Hid (aK (k+1) (ny T L l) X=Y):=by show aK (k+1) _ X=Y;rw[hstep];simp
    clear hstep hin
    go_wp2_with fail
    go_roundw
    case rel=>exact⟨k+1,by go_num,by omega,by rw[HS.out];exact HA.out,lM.out.alloc _⟩
    case measure=>simp[intOf];omega
   |false=>
    have vM:y<N:=by simp at hin;omega
    simp only[Bool.false_eq_true,if_false,Int.toNat_natCast]at hstep;have HS:Hid (aK (k+1) (ny T L l) X=if (aV T (.g y) (l.drop (k+1)) Y).2 then eH (.g y) (.g L) (T+1) (aV T (.g y) (l.drop (k+1)) Y).1 else (aV T (.g y) (l.drop (k+1)) Y).1):=hstep;have m0:=lU.out.cell (p:=⟨w.heap.size,0,none⟩) (Bt.gU HB.out (Nat.le_refl _)) b0;have m1:=lU.out.cell (p:=⟨w.heap.size,1,none⟩) (Bt.gU HB.out (Nat.le_refl _)) b1;have m2:=lU.out.cell (p:=⟨w.heap.size,2,none⟩) (Bt.gU HB.out (Nat.le_refl _)) b2;have m3:=lU.out.cell (p:=⟨w.heap.size+1,0,none⟩) (Bt.gU HB.out (Nat.le_succ _)) b3;have m4:=lU.out.cell (p:=⟨w.heap.size+1,1,none⟩) (Bt.gU HB.out (Nat.le_succ _)) b4;obtain⟨gg',gc',hge,_,k5⟩:=HG.out.2 y vM;cases hge;have k6:(wr.alloc (.cells #[.bool false,.int .i64 y] 116)).cell? ⟨gg,y,none⟩=some (vg y):=(ou.out.trans lU.out).cell TF k5;have j2:(0:Int)<=(y:Int):=Int.natCast_nonneg _;have j3:(y:Int)<(N:Int):=by omega
    have j4:(k:Int)+1<=(l.length:Int):=by omega
    have j5:(l.length:Int)<=(lc:Int):=by omega
    have hw:IntKind.i64.wrap ((k:Int)+1)=(k:Int)+1:=IntWalk.i64_in _ (by omega);have j8:(0:Int)<=(k:Int)+1:=by omega
    obtain⟨ya,yc,TH⟩:=Bt.slice (i:=Iy.g y) (n:=T+1) HB.out (by simp[ay,bA,vM]);have TI:vg y= .slice ya (T+1) yc:=TH
    have first:=TB (w:=(wr.alloc (.cells #[.bool false,.int .i64 y] 116)).drew)
     (i:= .g y) (lc:=lc-(k+1)) (gl:=N) (gc:=gc) (ga:=some ⟨gg,0,none⟩) (Bt.drew HA.out) (by show B<=(wr.alloc _).heap.size;simp;omega) (n:=T+1) (by simp[bA,vM]) (by omega) (by simp) (HF.out.kept (ou.out.trans lU.out).drew)
     ((HL.out.drop (c:=lc) (k+1) hlc (by omega)).below ((ou.out.trans lU.out).drew.below (fun b hb=>Bt.ge HB.out hb) hB)) (fun s hs=>HI.out s (List.mem_of_mem_drop hs)) (by omega) (by simp;omega)
    have first':Calls Tryz.prog 74 #[.agg #[.slice na N nc,.slice fa N fc,.slice (some ⟨gg,0,none⟩) N gc],vg y,.slice (if lc=k+1 then some ⟨b',o',none⟩ else some ⟨b',o'+(k+1)*2,none⟩) (l.drop (k+1)).length (lc-(k+1)),.func (.func 73) #[] #[.pointer (some ⟨gb,0,none⟩)]] _ _:=first
    rw[List.length_drop,TI]at first';clear first TH hstep hin b0 b1 b2 b3 b4 k5
    go_upto_region 8 with fail
    go_cut [33] from 13 to 43 (fun s33 wx=>s33= .bool (aV T (.g y) (l.drop (k+1)) Y).2/\Bt wx B (ay T N (.slice na N nc) vf vg gb) (aV T (.g y) (l.drop (k+1)) Y).1/\
     Kept (ay T N (.slice na N nc) vf vg gb).K (wr.alloc (.cells #[.bool false,.int .i64 y] 116)) wx)
    case first=>
     by_cases hck:lc=k+1
     ·subst hck
      rw[if_pos rfl,Nat.sub_self,show l.length-(k+1)=0 by omega]at first';refine sM 8 (by kernel_rfl) (by kernel_rfl) ?_;simp only[List.take_succ_cons,List.take_zero,List.drop_succ_cons,List.drop_zero]
      repeat still_step
      refine wpStill_nil ?_
      go_wp2_with (go_at_call 74;refine first'.mono ?_;rintro e w2 ⟨rfl,hB2,hK2⟩)
      go_meet
      case rel=>exact⟨rfl,hB2,(Kept.refl _ _).drew.trans hK2⟩
     ·rw[if_neg hck]at first'
      refine sM 8 (by kernel_rfl) (by kernel_rfl) ?_;simp only[List.take_succ_cons,List.take_zero,List.drop_succ_cons,List.drop_zero]
      repeat still_step
      refine wpStill_nil ?_
      go_wp2_with (go_at_call 74;refine first'.mono ?_;rintro e w2 ⟨rfl,hB2,hK2⟩)
      go_meet
      case rel=>exact⟨rfl,hB2,(Kept.refl _ _).drew.trans hK2⟩
    case rest=>
     obtain⟨rfl,hB2,hK2⟩:=hcut;have n2:=hK2.cell (p:=⟨w.heap.size,2,none⟩) (Bt.gU HB.out (Nat.le_refl _)) m2;have n3:=hK2.cell (p:=⟨w.heap.size+1,0,none⟩) (Bt.gU HB.out (Nat.le_succ _)) m3;have n5:=((ou.out.trans lU.out).trans hK2).cell TF HgL.out;have HB2:Hid (Bt wc B (ay T N (.slice na N nc) vf vg gb) (aV T (.g y) (l.drop (k+1)) Y).1):=hB2;have dP:Hid (Kept (ay T N (.slice na N nc) vf vg gb).K ((w.alloc (.cells #[.slice na N nc,.slice fa N fc,.slice (some ⟨gg,0,none⟩) N gc] 56)).alloc (.cells #[.int .i64 L,.slice (some ⟨b',o',none⟩) l.length lc] 91)) wc):=(lM.out.trans lU.out).trans hK2;have j6:(0:Int)<=(L:Int):=Int.natCast_nonneg _;have j7:(L:Int)<(N:Int):=by omega
     clear hB2 hK2 first' m0 m1 m2 m3 m4 k6 Cn zX;cases hz:(aV T (.g y) (l.drop (k+1)) Y).2 with
     |true=>
      have all:=TA (i:= .g y) (j:= .g L) (n:=T+1) (nj:=T+1) HB2.out (by simp[bA,vM]) (by simp[bA,hL]) (Nat.le_refl _) (by simp) (by omega);have all':Calls Tryz.prog 75 #[vg y,vg L,.func (.func 73) #[] #[.pointer (some ⟨gb,0,none⟩)]] _ _:=all;rw[TI]at all';rw[hz]at HS;clear hz all
      go_wp2_with (go_at_call 75;refine all'.mono ?_;rintro e w2 ⟨rfl,hB3,hK3⟩)
      go_roundw
      case rel=>exact⟨k+1,by go_num,by omega,by rw[HS.out];exact hB3,dP.out.trans hK3⟩
      case measure=>simp[intOf];omega
     |false=>
      rw[hz]at HS;clear hz
      go_wp2_with fail
      go_roundw
      case rel=>exact⟨k+1,by go_num,by omega,by rw[HS.out];exact HB2.out,dP.out⟩
      case measure=>simp[intOf];omega
  ·obtain rfl:k=l.length:=by omega
   have HS:Hid (G9 T L l X=Y):=HY.out
   go_wp2_with fail
   go_end0
   exact⟨rfl,by rw[HS.out];exact gu.out,ou.out⟩
end
end Go.Proofs.YtblkkhfdeaaidaaGreatDoor
namespace Go.Proofs.YtblkkhfdeaaidaaGreatDoor
def vN(T:Nat)(r:Ru)(X:Xs):Xs:=G9 T r.1.toNat r.2 (jy T r.1.toNat r.2 X)
def Bg(T:Nat)(R:List Ru)(n:Nat)(X:Xs):Xs:=aK n (fun q=>vN T (R.getD q (0,[]))) X
def iK(T N:Nat)(X:Xs):Prop:=∀i n,bA T N i=some n->(X i).length=n
structure Up(T N:Nat)(X Y:Xs):Prop where
 bU:iK T N Y
 up:∀i m,bit X i m=true->bit Y i m=true
 still:bit Y .gr 0=false->Y=X
 grew:bit X .gr 0=false->bit Y .gr 0=true->∃i m n,i≠ .gr/\bA T N i=some n/\m<n/\bit X i m=false/\bit Y i m=true
section
variable{T N:Nat}
theorem Up.refl{X:Xs}(h:iK T N X):Up T N X X:=⟨h,fun _ _ h=>h,fun _=>rfl,fun h1 h2=>by rw[h1]at h2;cases h2⟩
theorem Up.trans{X Y Z:Xs}(h:Up T N X Y)(k:Up T N Y Z):Up T N X Z:=
 ⟨k.bU,fun i m hm=>k.up i m (h.up i m hm),fun hz=>by
   have e:=k.still hz;rw[e]at hz⊢;exact h.still hz,fun h1 h2=>by
   cases hy:bit Y .gr 0 with
   |true=>
    obtain⟨i,m,n,a1,a2,a3,a4,a5⟩:=h.grew h1 hy;exact⟨i,m,n,a1,a2,a3,a4,k.up i m a5⟩
   |false=>
    obtain⟨i,m,n,a1,a2,a3,a4,a5⟩:=k.grew hy h2;rw[h.still hy]at a4
    exact⟨i,m,n,a1,a2,a3,a4,a5⟩⟩
theorem LM{X:Xs}{i:Iy}{n m:Nat}(h:iK T N X)(hd:bA T N i=some n)(hm:m<n)(hi:i≠ .gr):Up T N X (jb X i m)/\bit (jb X i m) i m=true:=by
 have hl:=h i n hd;have hg:=h .gr 1 rfl;cases hb:bit X i m with
 |true=>
  have e:jb X i m=X:=by simp[jb,hb]
  rw[e];exact⟨Up.refl h,hb⟩
 |false=>
  have e:jb X i m=aU (aU X i m true) .gr 0 true:=by simp[jb,hb]
  rw[e];have hg':0<(aU X i m true .gr).length:=by rw[qN];omega
  refine⟨⟨fun j k hj=> ?_,fun j q hq=> ?_,fun hz=> ?_,fun _ _=> ?_⟩,?_⟩
  ·rw[qN,qN];exact h j k hj
  ·rw[gV hg',gV (by omega)]
   split
   ·rfl
   ·split
    ·rfl
    ·exact hq
  ·rw[gV hg']at hz
   simp at hz
  ·refine⟨i,m,n,hi,hd,hm,hb,?_⟩
   rw[gV hg',gV (by omega)];simp
  ·rw[gV hg',gV (by omega)]
   simp
theorem He{X:Xs}{i j:Iy}{n nj:Nat}(h:iK T N X)(hd:bA T N i=some n)(hle:nj<=n)(hi:i≠ .gr):
 Up T N X (eH i j nj X)/\∀m,m<nj->bit X j m=true->bit (eH i j nj X) i m=true:=by
 induction nj with
 |zero=>exact⟨Up.refl h,fun m hm=>absurd hm (Nat.not_lt_zero _)⟩
 |succ k ih=>
  obtain⟨h1,h2⟩:=ih (by omega);have e:eH i j (k+1) X=if bit (eH i j k X) j k then jb (eH i j k X) i k else eH i j k X:=rfl
  rw[e];cases hb:bit (eH i j k X) j k with
  |true=>
   obtain⟨p1,p2⟩:=LM (m:=k) h1.bU hd (by omega) hi;simp only[if_true];refine⟨h1.trans p1,fun m hm hx=> ?_⟩;rcases Nat.lt_succ_iff_lt_or_eq.1 hm with hm|rfl
   ·exact p1.up _ _ (h2 m hm hx)
   ·exact p2
  |false=>
   simp only[Bool.false_eq_true,if_false];refine⟨h1,fun m hm hx=> ?_⟩;rcases Nat.lt_succ_iff_lt_or_eq.1 hm with hm|rfl
   ·exact h2 m hm hx
   ·rw[h1.up _ _ hx]at hb;cases hb
def pK(X:Xs)(n:Int):Prop:=0<=n/\bit X .null n.toNat=true
def zf(X:Xs)(t:Nat)(n:Int):Prop:=0<=n/\bit X (.f n.toNat) t=true
def TJ(X:Xs)(t:Nat)(n:Int):Prop:=0<=n/\bit X (.g n.toNat) t=true
def qE(T N:Nat)(l:List Sy):Prop:=∀s∈l,0<=s.2/\s.2<if s.1 then (T:Int) else (N:Int)
theorem qE.tail{s:Sy}{l:List Sy}(h:qE T N (s::l)):qE T N l:=fun x hx=>h x (List.mem_cons_of_mem _ hx)
theorem qE.drop{l:List Sy}(h:qE T N l)(k:Nat):qE T N (l.drop k):=fun x hx=>h x (List.mem_of_mem_drop hx)
theorem LP{Nu A:Int->Prop}{t:Int}{s:Sy}{l:List Sy}(h:jT Nu A t (s::l)):((s.1=true/\s.2=t)\/(s.1=false/\A s.2))\/(s.1=false/\Nu s.2/\jT Nu A t l):=by
 obtain⟨i,x,h1,h2,h3⟩:=h;cases i with
 |zero=>
  simp at h1;subst h1;exact .inl h2
 |succ i=>
  right;simp at h1 h3;have hs:=h3 s (by simp);exact⟨hs.1,hs.2,i,x,h1,h2,fun y hy=>h3 y (by simp[hy])⟩
theorem Hf{i:Iy}{n:Nat}(hd:bA T N i=some n)(xO:T<=n)(hi:i≠ .gr):∀(l:List Sy),qE T N l->∀X,iK T N X->
 Up T N X (aV T i l X).1/\(bit (aV T i l X).1 .gr 0=false->(∀t,t<T->jT (pK X) (zf X t) t l->bit X i t=true)/\(jS (pK X) l->(aV T i l X).2=true)):=by
 intro l
 induction l with
 |nil=>
  intro _ X h;refine⟨Up.refl h,fun _=>⟨fun t _ hb=> ?_,fun _=>rfl⟩⟩;obtain⟨q,s,h1,_⟩:=hb;simp at h1
 |cons s l ih=>
  intro hin X h;have hs:=hin s (by simp);obtain⟨b,v⟩:=s;cases b with
  |true=>
   simp only[if_true]at hs;obtain⟨p1,p2⟩:=LM (m:=v.toNat) h hd (by omega) hi;have e:aV T i ((true,v)::l) X=(jb X i v.toNat,false):=by simp[aV]
   rw[e];refine⟨p1,fun hz=>⟨fun t ht hb=> ?_,fun ha=> ?_⟩⟩
   ·rw[p1.still hz]at p2
    rcases LP hb with(⟨_,h2⟩|⟨h1,_⟩)|⟨h1,_⟩
    ·simp only at h2
     subst h2;simpa using p2
    ·cases h1
    ·cases h1
   ·have:=(ha (true,v) (by simp)).1
    cases this
  |false=>
   simp only[Bool.false_eq_true,if_false]at hs;obtain⟨a1,a2⟩:=He (j:= .f v.toNat) (nj:=T) h hd xO hi;cases hb:bit (eH i (.f v.toNat) T X) .null v.toNat with
   |true=>
    have e:aV T i ((false,v)::l) X=aV T i l (eH i (.f v.toNat) T X):=by simp[aV,hb]
    rw[e];obtain⟨u1,u2⟩:=ih hin.tail _ a1.bU;refine⟨a1.trans u1,fun hz=> ?_⟩;have e1:=u1.still hz;have e2:bit (eH i (.f v.toNat) T X) .gr 0=false:=by rw[<-e1];exact hz
    have e3:=a1.still e2;obtain⟨c1,c2⟩:=u2 hz;rw[e3]at c1 c2 a2⊢;refine⟨fun t ht hbg=> ?_,fun ha=>c2 fun y hy=>ha y (by simp[hy])⟩;rcases LP hbg with(⟨h1,_⟩|⟨_,h2⟩)|⟨_,_,h3⟩
    ·cases h1
    ·exact a2 t ht h2.2
    ·exact c1 t ht h3
   |false=>
    have e:aV T i ((false,v)::l) X=(eH i (.f v.toNat) T X,false):=by simp[aV,hb]
    rw[e];refine⟨a1,fun hz=> ?_⟩;have e3:=a1.still hz;rw[e3]at hb a2;refine⟨fun t ht hbg=> ?_,fun ha=> ?_⟩
    ·rcases LP hbg with(⟨h1,_⟩|⟨_,h2⟩)|⟨_,h2,_⟩
     ·cases h1
     ·exact a2 t ht h2.2
     ·have:=h2.2;simp only at this;rw[hb]at this;cases this
    ·have:=(ha (false,v) (by simp)).2.2;simp only at this;rw[hb]at this;cases this
def Zb(T N:Nat)(R:List Ru):Iy->Nat->Prop
 | .null,n=>dM N R n
 | .f n,t=>gW N R t n
 | .g n,t=>nK T N R t n
 | .gr,_=>True
def ku(T N:Nat)(R:List Ru)(X:Xs):Prop:=∀i n m,bA T N i=some n->m<n->bit X i m=true->Zb T N R i m
variable{R:List Ru}
theorem LQ{X:Xs}{i:Iy}{n m:Nat}(h:iK T N X)(hd:bA T N i=some n)(hm:m<n)(hs:ku T N R X)(hz:Zb T N R i m):ku T N R (jb X i m):=by
 have hl:=h i n hd;have hg:=h .gr 1 rfl;cases hb:bit X i m with
 |true=>
  have e:jb X i m=X:=by simp[jb,hb]
  rw[e];exact hs
 |false=>
  have e:jb X i m=aU (aU X i m true) .gr 0 true:=by simp[jb,hb]
  rw[e];have hg':0<(aU X i m true .gr).length:=by rw[qN];omega
  intro j k q hj hq hbq;rw[gV hg',gV (by omega)]at hbq;by_cases c1:j= .gr/\q=0
  ·rw[c1.1];trivial
  ·rw[if_neg c1]at hbq
   by_cases c2:j=i/\q=m
   ·rw[c2.1,c2.2];exact hz
   ·rw[if_neg c2]at hbq
    exact hs j k q hj hq hbq
theorem TK{X:Xs}{i j:Iy}{n nj kj:Nat}(h:iK T N X)(hd:bA T N i=some n)(hle:nj<=n)(hi:i≠ .gr)(hdj:bA T N j=some kj)(hlj:nj<=kj)(hs:ku T N R X)(hz:∀m,m<nj->Zb T N R j m->Zb T N R i m):ku T N R (eH i j nj X):=by
 induction nj with
 |zero=>exact hs
 |succ k ih=>
  have h1:=(He (j:=j) (nj:=k) h hd (by omega) hi).1;have h2:=ih (by omega) (by omega) (fun m hm=>hz m (by omega));have e:eH i j (k+1) X=if bit (eH i j k X) j k then jb (eH i j k X) i k else eH i j k X:=rfl
  rw[e];cases hb:bit (eH i j k X) j k with
  |true=>
   simp only[if_true];exact LQ h1.bU hd (by omega) h2 (hz k (by omega) (h2 j kj k hdj (by omega) hb))
  |false=>simpa using h2
theorem TL{i:Iy}{n:Nat}(hd:bA T N i=some n)(xO:T<=n)(hi:i≠ .gr):∀(l:List Sy),qE T N l->(∀q s,l[q]?=some s->jS (dM N R) (l.take q)->(s.1=true->Zb T N R i s.2.toNat)/\(s.1=false->∀t,t<T->Zb T N R (.f s.2.toNat) t->Zb T N R i t))->
 ∀X,iK T N X->ku T N R X->ku T N R (aV T i l X).1/\((aV T i l X).2=true->jS (dM N R) l):=by
 intro l
 induction l with
 |nil=>intro _ _ X _ hs;exact⟨hs,fun _ s hs=>by cases hs⟩
 |cons s l ih=>
  intro hin hz X h hs;have hr:=hin s (by simp);have hz0:=hz 0 s (by simp) (by intro x hx;simp at hx);obtain⟨b,v⟩:=s;cases b with
  |true=>
   simp only[if_true]at hr;have e:aV T i ((true,v)::l) X=(jb X i v.toNat,false):=by simp[aV]
   rw[e];exact⟨LQ h hd (by omega) hs (hz0.1 rfl),fun h=>by cases h⟩
  |false=>
   simp only[Bool.false_eq_true,if_false]at hr;have hdj:bA T N (.f v.toNat)=some T:=by simp[bA];omega
   have a1:=(He (j:= .f v.toNat) (nj:=T) h hd xO hi).1;have a2:=TK (nj:=T) h hd xO hi hdj (Nat.le_refl _) hs (hz0.2 rfl);cases hb:bit (eH i (.f v.toNat) T X) .null v.toNat with
   |true=>
    have e:aV T i ((false,v)::l) X=aV T i l (eH i (.f v.toNat) T X):=by simp[aV,hb]
    rw[e]
    have vE:dM N R v:=by
     have:=a2 .null N v.toNat rfl (by omega) hb;have e:((v.toNat:Nat):Int)=v:=by omega
     simp only[Zb,e]at this;exact this
    have TM:∀x,x=((false,v):Sy)->x.1=false/\dM N R x.2:=fun x hx=>by subst hx;exact⟨rfl,vE⟩
    obtain⟨c1,c2⟩:=ih hin.tail (fun q x hx ha=>hz (q+1) x (by simpa using hx) (fun y hy=>by
     simp only[List.take_succ_cons,List.mem_cons]at hy;rcases hy with hy|hy
     ·exact TM y hy
     ·exact ha y hy)) _ a1.bU a2
    refine⟨c1,fun h2 y hy=> ?_⟩;rcases List.mem_cons.1 hy with hy|hy
    ·exact TM y hy
    ·exact c2 h2 y hy
   |false=>
    have e:aV T i ((false,v)::l) X=(eH i (.f v.toNat) T X,false):=by simp[aV,hb]
    rw[e];exact⟨a2,fun h=>by cases h⟩
end
section
variable{T N:Nat}
theorem TN{L:Nat}{l:List Sy}(hL:L<N)(hin:qE T N l){X:Xs}(h:iK T N X):Up T N X (jy T L l X)/\
 (bit (jy T L l X) .gr 0=false->(∀t,t<T->jT (pK X) (zf X t) t l->bit X (.f L) t=true)/\(jS (pK X) l->bit X .null L=true)):=by
 have hd:bA T N (.f L)=some T:=by simp[bA,hL]
 obtain⟨u1,u2⟩:=Hf hd (Nat.le_refl _) (by simp) l hin X h;cases hb:(aV T (.f L) l X).2 with
 |true=>
  have e:jy T L l X=jb (aV T (.f L) l X).1 .null L:=by simp[jy,hb]
  obtain⟨p1,p2⟩:=LM (i:= .null) (n:=N) u1.bU rfl hL (by simp);rw[e];refine⟨u1.trans p1,fun hz=> ?_⟩;have e1:=p1.still hz;rw[e1]at hz p2;obtain⟨c1,_⟩:=u2 hz;rw[u1.still hz]at p2;exact⟨c1,fun _=>p2⟩
 |false=>
  have e:jy T L l X=(aV T (.f L) l X).1:=by simp[jy,hb]
  rw[e];refine⟨u1,fun hz=> ?_⟩;obtain⟨c1,c2⟩:=u2 hz;exact⟨c1,fun ha=>by rw[c2 ha]at hb;cases hb⟩
theorem TP{l:List Sy}{k:Nat}(hk:k<l.length):l.getD k (false,0)∈l:=by simp[List.getD,hk]
theorem Hg{L k:Nat}{l:List Sy}(hL:L<N)(hin:qE T N l)(hk:k<l.length){X:Xs}(h:iK T N X):Up T N X (ny T L l k X)/\
 (bit (ny T L l k X) .gr 0=false->∀v,l[k]?=some (false,v)->(∀t,t<T->jT (pK X) (zf X t) t (l.drop (k+1))->bit X (.g v.toNat) t=true)/\
   (jS (pK X) (l.drop (k+1))->∀t,t<T+1->bit X (.g L) t=true->bit X (.g v.toNat) t=true)):=by
 have hs:=hin _ (TP hk);have lJ:l[k]?=some (l.getD k (false,0)):=by simp[List.getD,hk]
 unfold ny;obtain⟨⟨b,v⟩,hsy⟩:∃x,l.getD k (false,0)=x:=⟨_,rfl⟩;rw[hsy]at hs lJ⊢;cases b with
 |true=>
  simp only[if_true];exact⟨Up.refl h,fun _ v' hv=>by rw[lJ]at hv;cases hv⟩
 |false=>
  simp only[Bool.false_eq_true,if_false]at hs⊢;have hd:bA T N (.g v.toNat)=some (T+1):=by simp[bA];omega
  have TQ:bA T N (.g L)=some (T+1):=by simp[bA];omega
  obtain⟨u1,u2⟩:=Hf hd (by omega) (by simp) (l.drop (k+1)) (hin.drop _) X h;cases hb:(aV T (.g v.toNat) (l.drop (k+1)) X).2 with
  |true=>
   simp only[if_true];obtain⟨a1,a2⟩:=He (j:= .g L) (nj:=T+1) u1.bU hd (Nat.le_refl _) (by simp);refine⟨u1.trans a1,fun hz v' hv=> ?_⟩;rw[lJ]at hv;cases hv;have e1:=a1.still hz;rw[e1]at hz a2;obtain⟨c1,_⟩:=u2 hz;rw[u1.still hz]at a2;exact⟨c1,fun _=>a2⟩
  |false=>
   simp only[Bool.false_eq_true,if_false];refine⟨u1,fun hz v' hv=> ?_⟩;rw[lJ]at hv;cases hv;obtain⟨c1,c2⟩:=u2 hz;exact⟨c1,fun ha=>by rw[c2 ha]at hb;cases hb⟩
theorem LU{n:Nat}{f:Nat->Xs->Xs}(hf:∀k,k<n->∀Y,iK T N Y->Up T N Y (f k Y)){X:Xs}(h:iK T N X):Up T N X (aK n f X)/\
 (bit (aK n f X) .gr 0=false->∀k,k<n->bit (f k X) .gr 0=false):=by
 induction n with
 |zero=>exact⟨Up.refl h,fun _ k hk=>absurd hk (Nat.not_lt_zero _)⟩
 |succ n ih=>
  obtain⟨h1,h2⟩:=ih fun k hk=>hf k (by omega);have h3:=hf n (by omega) _ h1.bU;refine⟨h1.trans h3,fun hz k hk=> ?_⟩;have hz':bit (f n (aK n f X)) .gr 0=false:=hz;have e1:=h3.still hz';have hz1:bit (aK n f X) .gr 0=false:=by rw[<-e1];exact hz'
  rcases Nat.lt_succ_iff_lt_or_eq.1 hk with hk|rfl
  ·exact h2 hz1 k hk
  ·rw[h1.still hz1]at hz'
   exact hz'
structure Held(T:Nat)(r:Ru)(X:Xs):Prop where
 null:jS (pK X) r.2->bit X .null r.1.toNat=true
 first:∀t,t<T->jT (pK X) (zf X t) t r.2->bit X (.f r.1.toNat) t=true
 after:∀k v,r.2[k]?=some (false,v)->∀t,t<T->jT (pK X) (zf X t) t (r.2.drop (k+1))->bit X (.g v.toNat) t=true
 follow:∀k v,r.2[k]?=some (false,v)->jS (pK X) (r.2.drop (k+1))->∀t,t<T+1->bit X (.g r.1.toNat) t=true->bit X (.g v.toNat) t=true
structure tY(T N:Nat)(r:Ru):Prop where
 left:0<=r.1/\r.1<(N:Int)
 right:qE T N r.2
theorem LV{r:Ru}(hr:tY T N r){X:Xs}(h:iK T N X):Up T N X (vN T r X)/\(bit (vN T r X) .gr 0=false->Held T r X):=by
 have hL:r.1.toNat<N:=by have:=hr.left;omega
 obtain⟨a1,a2⟩:=TN hL hr.right h;obtain⟨b1,b2⟩:=LU (n:=r.2.length) (f:=ny T r.1.toNat r.2) (fun k hk Y hY=>(Hg hL hr.right hk hY).1) a1.bU;refine⟨a1.trans b1,fun hz=> ?_⟩;have hz':bit (aK r.2.length (ny T r.1.toNat r.2) (jy T r.1.toNat r.2 X)) .gr 0=false:=hz;have e1:=b1.still hz';have hz1:bit (jy T r.1.toNat r.2 X) .gr 0=false:=by rw[<-e1];exact hz'
 obtain⟨c1,c2⟩:=a2 hz1;have hs:=b2 hz';rw[a1.still hz1]at hs;have hlt:∀{k v},r.2[k]?=some (false,v)->k<r.2.length:=fun h=>(List.getElem?_eq_some_iff.1 h).1;exact⟨c2,c1,fun k v hv=>((Hg hL hr.right (hlt hv) h).2 (hs k (hlt hv)) v hv).1,fun k v hv=>((Hg hL hr.right (hlt hv) h).2 (hs k (hlt hv)) v hv).2⟩
theorem ab9{R:List Ru}(hR:∀q,q<R.length->tY T N (R.getD q (0,[]))){X:Xs}(h:iK T N X):Up T N X (Bg T R R.length X)/\
 (bit (Bg T R R.length X) .gr 0=false->∀q,q<R.length->Held T (R.getD q (0,[])) X):=by
 obtain⟨b1,b2⟩:=LU (n:=R.length) (f:=fun q=>vN T (R.getD q (0,[]))) (fun q hq Y hY=>(LV (hR q hq) hY).1) h;exact⟨b1,fun hz q hq=>(LV (hR q hq) h).2 (b2 hz q hq)⟩
end
section
variable{T N:Nat}{R:List Ru}
theorem xQ{v:Int}(h:0<=v):((v.toNat:Nat):Int)=v:=by omega
theorem acd(hf:bM T N R){r:Ru}(hr:tY T N r)(hm:r∈R){X:Xs}(h:iK T N X)(hs:ku T N R X):ku T N R (jy T r.1.toNat r.2 X):=by
 have hL:r.1.toNat<N:=by have:=hr.left;omega
 have hd:bA T N (.f r.1.toNat)=some T:=by simp[bA,hL]
 have ec:=xQ hr.left.1
 obtain⟨p1,p2⟩:=TL (R:=R) hd (Nat.le_refl _) (by simp) r.2 hr.right (fun q s hq ha=>⟨fun hb=>by
  have hsr:=hr.right s (List.mem_of_getElem? hq);show gW N R _ _;rw[ec,xQ hsr.1];exact lu (JQ hf _ _) _ ⟨r,hm,rfl,q,s,hq,.inl ⟨hb,rfl⟩,ha⟩,fun hb t _ hz=>by
  have hsr:=hr.right s (List.mem_of_getElem? hq);show gW N R _ _;have hz':gW N R t s.2:=by have:gW N R t (s.2.toNat:Nat):=hz;rwa [xQ hsr.1]at this
  rw[ec]
  exact lu (JQ hf _ _) _ ⟨r,hm,rfl,q,s,hq,.inr ⟨hb,hz'⟩,ha⟩⟩) X h hs
 have u1:=(Hf hd (Nat.le_refl _) (by simp) r.2 hr.right X h).1;unfold jy;cases hb:(aV T (.f r.1.toNat) r.2 X).2 with
 |true=>
  simp only[if_true];refine LQ (i:= .null) u1.bU rfl hL p1 ?_;show dM N R _;rw[ec];exact lu (O1 hf) _ ⟨r,hm,rfl,p2 hb⟩
 |false=>simpa using p1
theorem ace(hf:bM T N R){r:Ru}(hr:tY T N r)(hm:r∈R){k:Nat}(hk:k<r.2.length){X:Xs}(h:iK T N X)(hs:ku T N R X):ku T N R (ny T r.1.toNat r.2 k X):=by
 have hL:r.1.toNat<N:=by have:=hr.left;omega
 have ec:=xQ hr.left.1;have hsr:=hr.right _ (TP hk);have lJ:r.2[k]?=some (r.2.getD k (false,0)):=by simp[List.getD,hk]
 unfold ny;obtain⟨⟨b,v⟩,hsy⟩:∃x,r.2.getD k (false,0)=x:=⟨_,rfl⟩;rw[hsy]at hsr lJ⊢;cases b with
 |true=>simpa using hs
 |false=>
  simp only[Bool.false_eq_true,if_false]at hsr⊢;have ev:=xQ hsr.1;have hd:bA T N (.g v.toNat)=some (T+1):=by simp[bA];omega
  have TQ:bA T N (.g r.1.toNat)=some (T+1):=by simp[bA];omega
  have u1:=(Hf hd (by omega) (by simp) (r.2.drop (k+1)) (hr.right.drop _) X h).1
  obtain⟨p1,p2⟩:=TL (R:=R) hd (by omega) (by simp) (r.2.drop (k+1)) (hr.right.drop _) (fun q s hq ha=>⟨fun hb=>by
   have hx:=hr.right.drop _ s (List.mem_of_getElem? hq);have hx2:=hx.2;rw[hb]at hx2;simp only[if_true]at hx2;show nK T N R _ _;rw[ev,xQ hx.1];exact lu (Cs hf _ _ _) _ (.inr ⟨r,hm,k,lJ,.inl ⟨hx2,q,s,hq,.inl ⟨hb,rfl⟩,ha⟩⟩),fun hb t ht hz=>by
   have hx:=hr.right.drop _ s (List.mem_of_getElem? hq);show nK T N R _ _;have hz':gW N R t s.2:=by have:gW N R t (s.2.toNat:Nat):=hz;rwa [xQ hx.1]at this
   rw[ev]
   exact lu (Cs hf _ _ _) _ (.inr ⟨r,hm,k,lJ,.inl ⟨by omega,q,s,hq,.inr ⟨hb,hz'⟩,ha⟩⟩)⟩) X h hs
  cases hb:(aV T (.g v.toNat) (r.2.drop (k+1)) X).2 with
  |true=>
   simp only[if_true];refine TK u1.bU hd (Nat.le_refl _) (by simp) TQ (Nat.le_refl _) p1 fun t _ hz=> ?_;show nK T N R _ _;have hz':nK T N R t r.1:=by have:nK T N R t (r.1.toNat:Nat):=hz;rwa [ec]at this
   rw[ev];exact lu (Cs hf _ _ _) _ (.inr ⟨r,hm,k,lJ,.inr ⟨p2 hb,hz'⟩⟩)
  |false=>simpa using p1
theorem TR{n:Nat}{f:Nat->Xs->Xs}(hf:∀k,k<n->∀Y,iK T N Y->Up T N Y (f k Y))(hg:∀k,k<n->∀Y,iK T N Y->ku T N R Y->ku T N R (f k Y)){X:Xs}(h:iK T N X)(hs:ku T N R X):ku T N R (aK n f X):=by
 induction n with
 |zero=>exact hs
 |succ n ih=>
  have h1:=(LU (n:=n) (f:=f) (fun k hk=>hf k (by omega)) h).1;exact hg n (by omega) _ h1.bU (ih (fun k hk=>hf k (by omega)) fun k hk=>hg k (by omega))
theorem acf(hf:bM T N R)(hR:∀q,q<R.length->tY T N (R.getD q (0,[]))){X:Xs}(h:iK T N X)(hs:ku T N R X):ku T N R (Bg T R R.length X):=by
 refine TR (fun q hq Y hY=>(LV (hR q hq) hY).1) (fun q hq Y hY Hl=> ?_) h hs;have hm:R.getD q (0,[])∈R:=by simp[List.getD,hq]
 have hr:=hR q hq;have hL:(R.getD q (0,[])).1.toNat<N:=by have:=hr.left;omega
 exact TR (fun k hk Z hZ=>(Hg hL hr.right hk hZ).1) (fun k hk Z hZ hsZ=>ace hf hr hm hk hZ hsZ) (TN hL hr.right hY).1.bU (acd hf hr hm hY Hl)
theorem LX(hf:bM T N R){X:Xs}(h:iK T N X)(hs:ku T N R X)(hH:∀q,q<R.length->Held T (R.getD q (0,[])) X)(h0:bit X (.g 0) T=true):
 (∀n:Nat,n<N->(bit X .null n=true↔dM N R n))/\(∀n t:Nat,n<N->t<T->(bit X (.f n) t=true↔gW N R t n))/\(∀n t:Nat,n<N->t<T+1->(bit X (.g n) t=true↔nK T N R t n)):=by
 have Ho:∀r∈R,Held T r X:=fun r hr=>by
  obtain⟨q,hq,rfl⟩:=List.getElem_of_mem hr;have e:R.getD q (0,[])=R[q]:=by simp[List.getD,hq]
  have:=hH q hq
  rwa [e]at this
 have range:∀{i:Iy} {n m:Nat},bA T N i=some n->bit X i m=true->m<n:=fun {i n m} hd hb=>by
  have:=Jy hb;rw[h i n hd]at this;exact this
 have kM:∀n,dM N R n->pK X n:=fun n hn=>Cr (OY R) (A:=pK X) (fun n hn=>by
  obtain⟨r,hr,rfl,ha⟩:=hn
  exact⟨(hf.left r hr).1,(Ho r hr).null ha⟩) N n hn
 have LY:pK X=dM N R:=funext fun n=>propext ⟨fun hn=>by
  have:=hs .null N n.toNat rfl (range rfl hn.2) hn.2;have:dM N R (n.toNat:Nat):=this
  rwa [xQ hn.1]at this,kM n⟩
 have nX:∀t:Nat,t<T->∀n,gW N R t n->zf X t n:=fun t ht n hn=>Cr (OZ R _ t) (A:=zf X t) (fun n hn=>by
  obtain⟨r,hr,rfl,ha⟩:=hn
  exact⟨(hf.left r hr).1,(Ho r hr).first t ht (by rw[LY];exact ha)⟩) N n hn
 have acg:∀n t:Nat,n<N->t<T->bit X (.f n) t=true->gW N R t n:=fun n t hn ht hb=>hs (.f n) T t (by simp[bA,hn]) ht hb
 have fol:∀t:Nat,t<T+1->∀n,nK T N R t n->TJ X t n:=fun t ht n hn=>Cr (O0 R _ _ T t) (A:=TJ X t) (fun n hn=>by
  rcases hn with⟨rfl,hT⟩|⟨r,hr,k,hk,ha⟩
  ·obtain rfl:t=T:=by omega
   exact⟨Int.le_refl _,h0⟩
  ·have hv:=hf.name r hr _ (List.mem_of_getElem? hk) rfl
   refine⟨hv.1,?_⟩;rcases ha with⟨a1,a2⟩|⟨a1,a2⟩
   ·refine(Ho r hr).after k _ hk t (by omega) ?_
    rw[LY];exact a2.mono fun n hn=>nX t (by omega) n hn
   ·exact(Ho r hr).follow k _ hk (by rw[LY];exact a1) t ht a2.2) N n hn
 refine⟨fun n hn=>⟨fun hb=>hs .null N n rfl hn hb,fun hn'=> ?_⟩,fun n t hn ht=>⟨acg n t hn ht,fun hn'=> ?_⟩,fun n t hn ht=>⟨fun hb=>hs (.g n) (T+1) t (by simp[bA,hn]) ht hb,fun hn'=> ?_⟩⟩
 ·simpa using (kM n hn').2
 ·simpa using (nX t ht n hn').2
 ·simpa using (fol t ht n hn').2
end
section
variable{T N:Nat}
def zh(T N:Nat):List (Iy×Nat):=(List.range N).map (fun n=>(.null,n))++(List.range N).flatMap (fun n=>(List.range T).map fun t=>(.f n,t))++(List.range N).flatMap (fun n=>(List.range (T+1)).map fun t=>(.g n,t))
def left(T N:Nat)(X:Xs):Nat:=((zh T N).filter fun p=> !bit X p.1 p.2).length
theorem ach{i:Iy}{n m:Nat}(hi:i≠ .gr)(hd:bA T N i=some n)(hm:m<n):(i,m)∈zh T N:=by
 cases i with
 |gr=>exact absurd rfl hi
 |null=>simp only[bA,Option.some.injEq]at hd;subst hd;simp[zh,hm]
 |f q=>
  simp only[bA]at hd;split at hd
  ·cases hd;rename_i hq;simp[zh,hq,hm]
  ·cases hd
 |g q=>
  simp only[bA]at hd;split at hd
  ·cases hd;rename_i hq;simp[zh,hq,hm]
  ·cases hd
theorem aci{X Y:Xs}(h:Up T N X Y)(h1:bit X .gr 0=false)(h2:bit Y .gr 0=true):left T N Y<left T N X:=by
 obtain⟨i,m,n,a1,a2,a3,a4,a5⟩:=h.grew h1 h2;refine(filter_lt _ _ (fun p hp=> ?_) (zh T N)).2 ⟨(i,m),ach a1 a2 a3,by simp[a4],by simp[a5]⟩;cases hb:bit X p.1 p.2 with
 |false=>rfl
 |true=>simp[h.up _ _ hb]at hp
theorem acj{X:Xs}{v:Bool}(h:iK T N X):left T N (aU X .gr 0 v)=left T N X:=by
 have hg:=h .gr 1 rfl;unfold left
 congr 1
 refine List.filter_congr fun p hp=> ?_;rw[gV (by omega),if_neg];rintro ⟨e,_⟩;simp only[zh,List.mem_append,List.mem_map,List.mem_flatMap]at hp;rcases hp with(⟨_,_,rfl⟩|⟨_,_,_,_,rfl⟩)|⟨_,_,_,_,rfl⟩<;>cases e
end
end Go.Proofs.YtblkkhfdeaaidaaGreatDoor
