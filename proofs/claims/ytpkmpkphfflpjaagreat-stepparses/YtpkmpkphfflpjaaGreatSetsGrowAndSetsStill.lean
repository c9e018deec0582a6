import Derived.Test.YtpkmpkphfflpjaaGreatTkTabAndSetsPut
import Derived.Deep.DrawnRows
import Derived.Test.YtpkmpkphfflpjaaGreatLfpAndRef3Math
set_option maxHeartbeats 3200000
set_option maxRecDepth 100000
namespace Go.Proofs.YtpkmpkphfflpjaaGreat
open Go.RowKit
def kK(T:Nat)(L:Nat)(l:List Sy)(X:Xs):Xs:=if (bM T (.f L) l X).2 then ko (bM T (.f L) l X).1 .null L else (bM T (.f L) l X).1
def oL(T:Nat)(L:Nat)(l:List Sy)(k:Nat)(Y:Xs):Xs:=
 if (l.getD k (false,0)).1 then Y else
  if (bM T (.g (l.getD k (false,0)).2.toNat) (l.drop (k+1)) Y).2 then fK (.g (l.getD k (false,0)).2.toNat) (.g L) (T+1) (bM T (.g (l.getD k (false,0)).2.toNat) (l.drop (k+1)) Y).1
  else (bM T (.g (l.getD k (false,0)).2.toNat) (l.drop (k+1)) Y).1
def JG(T:Nat)(L:Nat)(l:List Sy)(X:Xs):Xs:=bO l.length (oL T L l) X
theorem iq.drop{w:World}{B b o c:Nat}{l:List Sy}(h:iq w B (some ⟨b,o,none⟩) l)(n:Nat)(hc:l.length<=c)(hn:n<=l.length):
 iq w B (if c=n then some ⟨b,o,none⟩ else some ⟨b,o+n*2,none⟩) (l.drop n):=fun j hj=>by
 have hl:(l.drop n).length=l.length-n:=by simp
 rw[hl]at hj;obtain⟨b',o',e,h0,h1,h2⟩:=h (n+j) (by omega);cases e;have hg:(l.drop n).getD j (false,0)=l.getD (n+j) (false,0):=by simp[List.getD]
 refine⟨b,o+n*2,by rw[if_neg (by omega)],h0,?_,?_⟩
 ·rw[hg,<-h1];congr 2;omega
 ·rw[hg,<-h2];congr 2;omega
section
variable{T N:Nat}{nv:Value}{vf vg:Nat->Value}{gb:Nat}
theorem adW{w:World}{B lc L gl gc:Nat}{fv:Value}{la ga:Option Addr}{X:Xs}{l:List Sy}(h:Bt w B (aL T N nv vf vg gb) X)(hB:B<=w.heap.size)(hL:L<N)
 (hF:ku w (aL T N nv vf vg gb).K N fv vf) (hl:iq w B la l) (hin:∀s∈l,0<=s.2/\s.2<if s.1 then (T:Int) else (N:Int)) (hT:T<=1000) (h8:l.length<=1000):
 Calls Tryz.prog 53 #[.agg #[nv,fv,.slice ga gl gc],.agg #[.int .i64 L,.slice la l.length lc],.func (.func 70) #[] #[.pointer (some ⟨gb,0,none⟩)]] w fun e w'=>
  e= .returned (.tuple #[])/\Bt w' B (aL T N nv vf vg gb) (kK T L l X)/\Kept (aL T N nv vf vg gb).K w w':=by
 obtain⟨na,nc,tN⟩:=Bt.slice (i:=Iy.null) (n:=N) h rfl;have zS:nv= .slice na N nc:=tN;clear tN;obtain⟨fg,fc,qF,hfK,hfc⟩:=hF.2 L hL;subst zS;subst qF;obtain⟨ia,ic,uY⟩:=Bt.slice (i:=Iy.f L) (n:=T) h (by simp[aL,di,hL]);have adX:vf L= .slice ia T ic:=uY;have FH:Kept (aL T N (.slice na N nc) vf vg gb).K w ((w.alloc (.cells #[.slice na N nc,.slice (some ⟨fg,0,none⟩) N fc,.slice ga gl gc] 84)).alloc (.cells #[.int .i64 L,.slice la l.length lc] 79)):=((Kept.refl _ _).alloc _).alloc _
 have first:=VD (w:=((w.alloc (.cells #[.slice na N nc,.slice (some ⟨fg,0,none⟩) N fc,.slice ga gl gc] 84)).alloc (.cells #[.int .i64 L,.slice la l.length lc] 79)).drew)
  (i:= .f L) (lc:=lc) (gl:=gl) (gc:=gc) (ga:=ga) (Bt.drew (Bt.alloc (Bt.alloc h _) _)) (by show B<=((w.alloc _).alloc _).heap.size;simp;omega) (n:=T) (by simp[di,hL]) (Nat.le_refl _) (by simp) (hF.kept FH.drew) (hl.below (FH.drew.below (fun b hb=>Bt.ge h hb) hB)) hin hT h8
 have first':Calls Tryz.prog 71 #[.agg #[.slice na N nc,.slice (some ⟨fg,0,none⟩) N fc,.slice ga gl gc],vf L,.slice la l.length lc,.func (.func 70) #[] #[.pointer (some ⟨gb,0,none⟩)]] _ _:=first
 rw[adX]at first';have HB:Hid (Bt w B (aL T N (.slice na N nc) vf vg gb) X):=h;have pR:Hid (Kept (aL T N (.slice na N nc) vf vg gb).K w ((w.alloc (.cells #[.slice na N nc,.slice (some ⟨fg,0,none⟩) N fc,.slice ga gl gc] 84)).alloc (.cells #[.int .i64 L,.slice la l.length lc] 79))):=FH;have k6:((w.alloc (.cells #[.slice na N nc,.slice (some ⟨fg,0,none⟩) N fc,.slice ga gl gc] 84)).alloc (.cells #[.int .i64 L,.slice la l.length lc] 79)).cell? ⟨fg,L,none⟩=some (vf L):=FH.cell hfK hfc;have j2:(0:Int)<=(L:Int):=Int.natCast_nonneg _;have j3:(L:Int)<(N:Int):=by omega
 clear h hF hl hin FH first hfc uY
 go_enter Tryz.func53,Tryz.ntmps53
 go_upto_region 2 with fail
 go_cut [16] from 6 to 22 (fun s16 wx=>s16= .bool (bM T (.f L) l X).2/\Bt wx B (aL T N (.slice na N nc) vf vg gb) (bM T (.f L) l X).1/\
  Kept (aL T N (.slice na N nc) vf vg gb).K ((w.alloc (.cells #[.slice na N nc,.slice (some ⟨fg,0,none⟩) N fc,.slice ga gl gc] 84)).alloc (.cells #[.int .i64 L,.slice la l.length lc] 79)) wx)
 case first=>
  refine yB 10 (by kernel_rfl) (by kernel_rfl) ?_;simp only[List.take_succ_cons,List.take_zero,List.drop_succ_cons,List.drop_zero]
  repeat still_step
  refine wpStill_nil ?_
  go_wp2_with (go_at_call 71;refine first'.mono ?_;rintro e w2 ⟨rfl,hB2,hK2⟩)
  go_meet
  case rel=>exact⟨rfl,hB2,(Kept.refl _ _).drew.trans hK2⟩
 case rest=>
  obtain⟨rfl,hB2,hK2⟩:=hcut;have b0:=hK2.cell (p:=⟨w.heap.size,0,none⟩) (Bt.iV HB.out (Nat.le_refl _)) (v:= .slice na N nc) (by simp[go_sem]);have b1:=hK2.cell (p:=⟨w.heap.size+1,0,none⟩) (Bt.iV HB.out (Nat.le_succ _)) (v:= .int .i64 L) (by simp[go_sem]);have HB2:Hid (Bt wc B (aL T N (.slice na N nc) vf vg gb) (bM T (.f L) l X).1):=hB2;have fC:Hid (Kept (aL T N (.slice na N nc) vf vg gb).K w wc):=pR.out.trans hK2;clear hB2 hK2 first' k6;cases hz:(bM T (.f L) l X).2 with
  |true=>
   have put:=VA (i:= .null) HB2.out (n:=N) rfl hL (by simp);have put':Calls Tryz.prog 70 #[.slice na N nc,.int .i64 L,.pointer (some ⟨gb,0,none⟩)] _ _:=put;have HP:Hid (kK T L l X=ko (bM T (.f L) l X).1 .null L):=by show kK T L l X=_;simp[kK,hz]
   clear hz put
   go_wp2_with (go_at_call 70;refine put'.mono ?_;rintro e w2 ⟨rfl,hB3,hK3⟩)
   go_end0
   exact⟨rfl,by rw[HP.out];exact hB3,fC.out.trans hK3⟩
  |false=>
   have HP:Hid (kK T L l X=(bM T (.f L) l X).1):=by show kK T L l X=_;simp[kK,hz]
   clear hz
   go_wp2_with fail
   go_end0
   exact⟨rfl,by rw[HP.out];exact HB2.out,fC.out⟩
end
section
variable{T N:Nat}{nv:Value}{vf vg:Nat->Value}{gb:Nat}
theorem adY{w:World}{B lc L:Nat}{fv gv:Value}{la:Option Addr}{X:Xs}{l:List Sy}(h:Bt w B (aL T N nv vf vg gb) X)(hB:B<=w.heap.size)(hL:L<N)(hlc:l.length<=lc)
 (hF:ku w (aL T N nv vf vg gb).K N fv vf) (hG:ku w (aL T N nv vf vg gb).K N gv vg) (hl:iq w B la l) (hin:∀s∈l,0<=s.2/\s.2<if s.1 then (T:Int) else (N:Int)) (hT:T<=900) (h8:l.length<=1000):
 Calls Tryz.prog 54 #[.agg #[nv,fv,gv],.agg #[.int .i64 L,.slice la l.length lc],.func (.func 70) #[] #[.pointer (some ⟨gb,0,none⟩)]] w fun e w'=>
  e= .returned (.tuple #[])/\Bt w' B (aL T N nv vf vg gb) (JG T L l X)/\Kept (aL T N nv vf vg gb).K w w':=by
 obtain⟨na,nc,tN⟩:=Bt.slice (i:=Iy.null) (n:=N) h rfl;have zS:nv= .slice na N nc:=tN;clear tN;obtain⟨fa,fc,qF⟩:=hF.1;obtain⟨gg,gc,hgv,VE,VF⟩:=hG.2 L hL;subst zS;subst qF;subst hgv;have HB:Hid (Bt w B (aL T N (.slice na N nc) vf vg gb) X):=h;have HF:Hid (ku w (aL T N (.slice na N nc) vf vg gb).K N (.slice fa N fc) vf):=hF;have HG:Hid (ku w (aL T N (.slice na N nc) vf vg gb).K N (.slice (some ⟨gg,0,none⟩) N gc) vg):=hG;have HL:Hid (iq w B la l):=hl;have HI:Hid (∀s∈l,0<=s.2/\s.2<if s.1 then (T:Int) else (N:Int)):=hin;have HgL:Hid (w.cell? ⟨gg,L,none⟩=some (vg L)):=VF;clear h hF hG hl hin VF
 go_enter Tryz.func54,Tryz.ntmps54
 go_wp2_with fail
 go_loopw [12] (fun s wr=> ∃k:Nat,s= .int .i64 k/\k<=l.length/\Bt wr B (aL T N (.slice na N nc) vf vg gb) (bO k (oL T L l) X)/\
  Kept (aL T N (.slice na N nc) vf vg gb).K ((w.alloc (.cells #[.slice na N nc,.slice fa N fc,.slice (some ⟨gg,0,none⟩) N gc] 84)).alloc (.cells #[.int .i64 L,.slice la l.length lc] 79)) wr) (fun s _=>l.length-(intOf s).toNat)
 case atStart=>exact⟨0,rfl,Nat.zero_le _,Bt.alloc (Bt.alloc HB.out _) _,Kept.refl _ _⟩
 case round=>
  obtain⟨k,rfl,hk,hBr,hKr⟩:=hrel;obtain⟨Y,hY⟩:∃Y,bO k (oL T L l) X=Y:=⟨_,rfl⟩;rw[hY]at hBr;have HY:Hid (bO k (oL T L l) X=Y):=hY;have iC:Hid (Bt wr B (aL T N (.slice na N nc) vf vg gb) Y):=hBr;have mZ:Hid (Kept (aL T N (.slice na N nc) vf vg gb).K ((w.alloc (.cells #[.slice na N nc,.slice fa N fc,.slice (some ⟨gg,0,none⟩) N gc] 84)).alloc (.cells #[.int .i64 L,.slice la l.length lc] 79)) wr):=hKr;have pR:Hid (Kept (aL T N (.slice na N nc) vf vg gb).K w wr):=(((Kept.refl _ _).alloc _).alloc _).trans hKr;have hsz:w.heap.size+2<=wr.heap.size:=by have:=hKr.size;simp at this;omega
  have b0:wr.cell? ⟨w.heap.size,0,none⟩=some (.slice na N nc):=hKr.cell (Bt.iV HB.out (Nat.le_refl _)) (by simp[go_sem]);have b1:wr.cell? ⟨w.heap.size,1,none⟩=some (.slice fa N fc):=hKr.cell (Bt.iV HB.out (Nat.le_refl _)) (by simp[go_sem]);have b2:wr.cell? ⟨w.heap.size,2,none⟩=some (.slice (some ⟨gg,0,none⟩) N gc):=hKr.cell (Bt.iV HB.out (Nat.le_refl _)) (by simp[go_sem]);have b3:wr.cell? ⟨w.heap.size+1,0,none⟩=some (.int .i64 L):=hKr.cell (Bt.iV HB.out (Nat.le_succ _)) (by simp[go_sem]);have b4:wr.cell? ⟨w.heap.size+1,1,none⟩=some (.slice la l.length lc):=hKr.cell (Bt.iV HB.out (Nat.le_succ _)) (by simp[go_sem]);have xE:Hid (Below B w wr):=pR.out.below (fun b hb=>Bt.ge HB.out hb) hB;clear hY hBr hKr;by_cases hlt:k<l.length
  ·obtain⟨b',o',eF,hb',k3,k4⟩:=HL.out k hlt
   subst eF;have hmem:l.getD k (false,0)∈l:=by simp[List.getD,hlt]
   have hin:=HI.out _ hmem;obtain⟨⟨t,v⟩,hsy⟩:∃x,l.getD k (false,0)=x:=⟨_,rfl⟩
   have hstep:bO (k+1) (oL T L l) X=if t then Y else if (bM T (.g v.toNat) (l.drop (k+1)) Y).2 then fK (.g v.toNat) (.g L) (T+1) (bM T (.g v.toNat) (l.drop (k+1)) Y).1 else (bM T (.g v.toNat) (l.drop (k+1)) Y).1:=by
    rw[bO,HY.out,oL,hsy]
   rw[hsy]at k3 k4 hin;simp only at hin;obtain⟨y,rfl⟩:∃y:Nat,v=y:=⟨v.toNat,by omega⟩;have Er:wr.cell? ⟨b',o'+k*2,none⟩=some (.bool t):=(xE.out.cell (p:=⟨b',o'+k*2,none⟩) hb').trans k3;have yT:wr.cell? ⟨b',o'+k*2+1,none⟩=some (.int .i64 y):=by rw[Nat.add_assoc];exact(xE.out.cell (p:=⟨b',o'+(k*2+1),none⟩) hb').trans k4
   have j0:(0:Int)<=(k:Int):=Int.natCast_nonneg _;have j1:(k:Int)<(l.length:Int):=by omega
   have HA:Hid (Bt (wr.alloc (.cells #[.bool t,.int .i64 y] 104)) B (aL T N (.slice na N nc) vf vg gb) Y):=Bt.alloc iC.out _;have ni:Hid (Kept (aL T N (.slice na N nc) vf vg gb).K wr (wr.alloc (.cells #[.bool t,.int .i64 y] 104))):=(Kept.refl _ _).alloc _;clear hmem hsy k3 k4;cases t with
   |true=>
    have HS:Hid (bO (k+1) (oL T L l) X=Y):=by show bO (k+1) _ X=Y;rw[hstep];simp
    clear hstep hin
    go_wp2_with fail
    go_roundw
    case rel=>exact⟨k+1,by go_num,by omega,by rw[HS.out];exact HA.out,mZ.out.alloc _⟩
    case measure=>simp[intOf];omega
   |false=>
    have wD:y<N:=by simp at hin;omega
    simp only[Bool.false_eq_true,if_false,Int.toNat_natCast]at hstep;have HS:Hid (bO (k+1) (oL T L l) X=if (bM T (.g y) (l.drop (k+1)) Y).2 then fK (.g y) (.g L) (T+1) (bM T (.g y) (l.drop (k+1)) Y).1 else (bM T (.g y) (l.drop (k+1)) Y).1):=hstep;have m0:=ni.out.cell (p:=⟨w.heap.size,0,none⟩) (Bt.iV HB.out (Nat.le_refl _)) b0;have m1:=ni.out.cell (p:=⟨w.heap.size,1,none⟩) (Bt.iV HB.out (Nat.le_refl _)) b1;have m2:=ni.out.cell (p:=⟨w.heap.size,2,none⟩) (Bt.iV HB.out (Nat.le_refl _)) b2;have m3:=ni.out.cell (p:=⟨w.heap.size+1,0,none⟩) (Bt.iV HB.out (Nat.le_succ _)) b3;have m4:=ni.out.cell (p:=⟨w.heap.size+1,1,none⟩) (Bt.iV HB.out (Nat.le_succ _)) b4;obtain⟨gg',gc',hge,_,k5⟩:=HG.out.2 y wD;cases hge;have k6:(wr.alloc (.cells #[.bool false,.int .i64 y] 104)).cell? ⟨gg,y,none⟩=some (vg y):=(pR.out.trans ni.out).cell VE k5;have j2:(0:Int)<=(y:Int):=Int.natCast_nonneg _;have j3:(y:Int)<(N:Int):=by omega
    have j4:(k:Int)+1<=(l.length:Int):=by omega
    have j5:(l.length:Int)<=(lc:Int):=by omega
    have hw:IntKind.i64.wrap ((k:Int)+1)=(k:Int)+1:=IntWalk.i64_in _ (by omega);have j8:(0:Int)<=(k:Int)+1:=by omega
    obtain⟨ya,yc,VG⟩:=Bt.slice (i:=Iy.g y) (n:=T+1) HB.out (by simp[aL,di,wD]);have VH:vg y= .slice ya (T+1) yc:=VG
    have first:=VD (w:=(wr.alloc (.cells #[.bool false,.int .i64 y] 104)).drew)
     (i:= .g y) (lc:=lc-(k+1)) (gl:=N) (gc:=gc) (ga:=some ⟨gg,0,none⟩) (Bt.drew HA.out) (by show B<=(wr.alloc _).heap.size;simp;omega) (n:=T+1) (by simp[di,wD]) (by omega) (by simp) (HF.out.kept (pR.out.trans ni.out).drew)
     ((HL.out.drop (c:=lc) (k+1) hlc (by omega)).below ((pR.out.trans ni.out).drew.below (fun b hb=>Bt.ge HB.out hb) hB)) (fun s hs=>HI.out s (List.mem_of_mem_drop hs)) (by omega) (by simp;omega)
    have first':Calls Tryz.prog 71 #[.agg #[.slice na N nc,.slice fa N fc,.slice (some ⟨gg,0,none⟩) N gc],vg y,.slice (if lc=k+1 then some ⟨b',o',none⟩ else some ⟨b',o'+(k+1)*2,none⟩) (l.drop (k+1)).length (lc-(k+1)),.func (.func 70) #[] #[.pointer (some ⟨gb,0,none⟩)]] _ _:=first
    rw[List.length_drop,VH]at first';clear first VG hstep hin b0 b1 b2 b3 b4 k5
    go_upto_region 8 with fail
    go_cut [33] from 13 to 43 (fun s33 wx=>s33= .bool (bM T (.g y) (l.drop (k+1)) Y).2/\Bt wx B (aL T N (.slice na N nc) vf vg gb) (bM T (.g y) (l.drop (k+1)) Y).1/\
     Kept (aL T N (.slice na N nc) vf vg gb).K (wr.alloc (.cells #[.bool false,.int .i64 y] 104)) wx)
    case first=>
     by_cases hck:lc=k+1
     ·subst hck
      rw[if_pos rfl,Nat.sub_self,show l.length-(k+1)=0 by omega]at first';refine yB 8 (by kernel_rfl) (by kernel_rfl) ?_;simp only[List.take_succ_cons,List.take_zero,List.drop_succ_cons,List.drop_zero]
      repeat still_step
      refine wpStill_nil ?_
      go_wp2_with (go_at_call 71;refine first'.mono ?_;rintro e w2 ⟨rfl,hB2,hK2⟩)
      go_meet
      case rel=>exact⟨rfl,hB2,(Kept.refl _ _).drew.trans hK2⟩
     ·rw[if_neg hck]at first'
      refine yB 8 (by kernel_rfl) (by kernel_rfl) ?_;simp only[List.take_succ_cons,List.take_zero,List.drop_succ_cons,List.drop_zero]
      repeat still_step
      refine wpStill_nil ?_
      go_wp2_with (go_at_call 71;refine first'.mono ?_;rintro e w2 ⟨rfl,hB2,hK2⟩)
      go_meet
      case rel=>exact⟨rfl,hB2,(Kept.refl _ _).drew.trans hK2⟩
    case rest=>
     obtain⟨rfl,hB2,hK2⟩:=hcut;have n2:=hK2.cell (p:=⟨w.heap.size,2,none⟩) (Bt.iV HB.out (Nat.le_refl _)) m2;have n3:=hK2.cell (p:=⟨w.heap.size+1,0,none⟩) (Bt.iV HB.out (Nat.le_succ _)) m3;have n5:=((pR.out.trans ni.out).trans hK2).cell VE HgL.out;have HB2:Hid (Bt wc B (aL T N (.slice na N nc) vf vg gb) (bM T (.g y) (l.drop (k+1)) Y).1):=hB2;have fC:Hid (Kept (aL T N (.slice na N nc) vf vg gb).K ((w.alloc (.cells #[.slice na N nc,.slice fa N fc,.slice (some ⟨gg,0,none⟩) N gc] 84)).alloc (.cells #[.int .i64 L,.slice (some ⟨b',o',none⟩) l.length lc] 79)) wc):=(mZ.out.trans ni.out).trans hK2;have j6:(0:Int)<=(L:Int):=Int.natCast_nonneg _;have j7:(L:Int)<(N:Int):=by omega
     clear hB2 hK2 first' m0 m1 m2 m3 m4 k6 Er yT;cases hz:(bM T (.g y) (l.drop (k+1)) Y).2 with
     |true=>
      have all:=VB (i:= .g y) (j:= .g L) (n:=T+1) (nj:=T+1) HB2.out (by simp[di,wD]) (by simp[di,hL]) (Nat.le_refl _) (by simp) (by omega);have all':Calls Tryz.prog 72 #[vg y,vg L,.func (.func 70) #[] #[.pointer (some ⟨gb,0,none⟩)]] _ _:=all;rw[VH]at all';rw[hz]at HS;clear hz all
      go_wp2_with (go_at_call 72;refine all'.mono ?_;rintro e w2 ⟨rfl,hB3,hK3⟩)
      go_roundw
      case rel=>exact⟨k+1,by go_num,by omega,by rw[HS.out];exact hB3,fC.out.trans hK3⟩
      case measure=>simp[intOf];omega
     |false=>
      rw[hz]at HS;clear hz
      go_wp2_with fail
      go_roundw
      case rel=>exact⟨k+1,by go_num,by omega,by rw[HS.out];exact HB2.out,fC.out⟩
      case measure=>simp[intOf];omega
  ·obtain rfl:k=l.length:=by omega
   have HS:Hid (JG T L l X=Y):=HY.out
   go_wp2_with fail
   go_end0
   exact⟨rfl,by rw[HS.out];exact iC.out,pR.out⟩
end
end Go.Proofs.YtpkmpkphfflpjaaGreat
namespace Go.Proofs.YtpkmpkphfflpjaaGreat
def wE(T:Nat)(r:Ru)(X:Xs):Xs:=JG T r.1.toNat r.2 (kK T r.1.toNat r.2 X)
def Cn(T:Nat)(R:List Ru)(n:Nat)(X:Xs):Xs:=bO n (fun q=>wE T (R.getD q (0,[]))) X
def jC(T N:Nat)(X:Xs):Prop:=∀i n,di T N i=some n->(X i).length=n
structure Up(T N:Nat)(X Y:Xs):Prop where
 eG:jC T N Y
 up:∀i m,bit X i m=true->bit Y i m=true
 still:bit Y .gr 0=false->Y=X
 grew:bit X .gr 0=false->bit Y .gr 0=true->∃i m n,i≠ .gr/\di T N i=some n/\m<n/\bit X i m=false/\bit Y i m=true
section
variable{T N:Nat}
theorem Up.refl{X:Xs}(h:jC T N X):Up T N X X:=⟨h,fun _ _ h=>h,fun _=>rfl,fun h1 h2=>by rw[h1]at h2;cases h2⟩
theorem Up.trans{X Y Z:Xs}(h:Up T N X Y)(k:Up T N Y Z):Up T N X Z:=
 ⟨k.eG,fun i m hm=>k.up i m (h.up i m hm),fun hz=>by
   have e:=k.still hz;rw[e]at hz⊢;exact h.still hz,fun h1 h2=>by
   cases hy:bit Y .gr 0 with
   |true=>
    obtain⟨i,m,n,a1,a2,a3,a4,a5⟩:=h.grew h1 hy;exact⟨i,m,n,a1,a2,a3,a4,k.up i m a5⟩
   |false=>
    obtain⟨i,m,n,a1,a2,a3,a4,a5⟩:=k.grew hy h2;rw[h.still hy]at a4
    exact⟨i,m,n,a1,a2,a3,a4,a5⟩⟩
theorem Oo{X:Xs}{i:Iy}{n m:Nat}(h:jC T N X)(hd:di T N i=some n)(hm:m<n)(hi:i≠ .gr):Up T N X (ko X i m)/\bit (ko X i m) i m=true:=by
 have hl:=h i n hd;have hg:=h .gr 1 rfl;cases hb:bit X i m with
 |true=>
  have e:ko X i m=X:=by simp[ko,hb]
  rw[e];exact⟨Up.refl h,hb⟩
 |false=>
  have e:ko X i m=bH (bH X i m true) .gr 0 true:=by simp[ko,hb]
  rw[e];have hg':0<(bH X i m true .gr).length:=by rw[rU];omega
  refine⟨⟨fun j k hj=> ?_,fun j q hq=> ?_,fun hz=> ?_,fun _ _=> ?_⟩,?_⟩
  ·rw[rU,rU];exact h j k hj
  ·rw[iW hg',iW (by omega)]
   split
   ·rfl
   ·split
    ·rfl
    ·exact hq
  ·rw[iW hg']at hz
   simp at hz
  ·refine⟨i,m,n,hi,hd,hm,hb,?_⟩
   rw[iW hg',iW (by omega)];simp
  ·rw[iW hg',iW (by omega)]
   simp
theorem JH{X:Xs}{i j:Iy}{n nj:Nat}(h:jC T N X)(hd:di T N i=some n)(hle:nj<=n)(hi:i≠ .gr):
 Up T N X (fK i j nj X)/\∀m,m<nj->bit X j m=true->bit (fK i j nj X) i m=true:=by
 induction nj with
 |zero=>exact⟨Up.refl h,fun m hm=>absurd hm (Nat.not_lt_zero _)⟩
 |succ k ih=>
  obtain⟨h1,h2⟩:=ih (by omega);have e:fK i j (k+1) X=if bit (fK i j k X) j k then ko (fK i j k X) i k else fK i j k X:=rfl
  rw[e];cases hb:bit (fK i j k X) j k with
  |true=>
   obtain⟨p1,p2⟩:=Oo (m:=k) h1.eG hd (by omega) hi;simp only[if_true];refine⟨h1.trans p1,fun m hm hx=> ?_⟩;rcases Nat.lt_succ_iff_lt_or_eq.1 hm with hm|rfl
   ·exact p1.up _ _ (h2 m hm hx)
   ·exact p2
  |false=>
   simp only[Bool.false_eq_true,if_false];refine⟨h1,fun m hm hx=> ?_⟩;rcases Nat.lt_succ_iff_lt_or_eq.1 hm with hm|rfl
   ·exact h2 m hm hx
   ·rw[h1.up _ _ hx]at hb;cases hb
def qL(X:Xs)(n:Int):Prop:=0<=n/\bit X .null n.toNat=true
def zT(X:Xs)(t:Nat)(n:Int):Prop:=0<=n/\bit X (.f n.toNat) t=true
def VI(X:Xs)(t:Nat)(n:Int):Prop:=0<=n/\bit X (.g n.toNat) t=true
def rO(T N:Nat)(l:List Sy):Prop:=∀s∈l,0<=s.2/\s.2<if s.1 then (T:Int) else (N:Int)
theorem rO.tail{s:Sy}{l:List Sy}(h:rO T N (s::l)):rO T N l:=fun x hx=>h x (List.mem_cons_of_mem _ hx)
theorem rO.drop{l:List Sy}(h:rO T N l)(k:Nat):rO T N (l.drop k):=fun x hx=>h x (List.mem_of_mem_drop hx)
theorem Oq{Nu A:Int->Prop}{t:Int}{s:Sy}{l:List Sy}(h:jG Nu A t (s::l)):((s.1=true/\s.2=t)\/(s.1=false/\A s.2))\/(s.1=false/\Nu s.2/\jG Nu A t l):=by
 obtain⟨i,x,h1,h2,h3⟩:=h;cases i with
 |zero=>
  simp at h1;subst h1;exact .inl h2
 |succ i=>
  right;simp at h1 h3;have hs:=h3 s (by simp);exact⟨hs.1,hs.2,i,x,h1,h2,fun y hy=>h3 y (by simp[hy])⟩
theorem JI{i:Iy}{n:Nat}(hd:di T N i=some n)(xZ:T<=n)(hi:i≠ .gr):∀(l:List Sy),rO T N l->∀X,jC T N X->
 Up T N X (bM T i l X).1/\(bit (bM T i l X).1 .gr 0=false->(∀t,t<T->jG (qL X) (zT X t) t l->bit X i t=true)/\(kR (qL X) l->(bM T i l X).2=true)):=by
 intro l
 induction l with
 |nil=>
  intro _ X h;refine⟨Up.refl h,fun _=>⟨fun t _ hb=> ?_,fun _=>rfl⟩⟩;obtain⟨q,s,h1,_⟩:=hb;simp at h1
 |cons s l ih=>
  intro hin X h;have hs:=hin s (by simp);obtain⟨b,v⟩:=s;cases b with
  |true=>
   simp only[if_true]at hs;obtain⟨p1,p2⟩:=Oo (m:=v.toNat) h hd (by omega) hi;have e:bM T i ((true,v)::l) X=(ko X i v.toNat,false):=by simp[bM]
   rw[e];refine⟨p1,fun hz=>⟨fun t ht hb=> ?_,fun ha=> ?_⟩⟩
   ·rw[p1.still hz]at p2
    rcases Oq hb with(⟨_,h2⟩|⟨h1,_⟩)|⟨h1,_⟩
    ·simp only at h2
     subst h2;simpa using p2
    ·cases h1
    ·cases h1
   ·have:=(ha (true,v) (by simp)).1
    cases this
  |false=>
   simp only[Bool.false_eq_true,if_false]at hs;obtain⟨a1,a2⟩:=JH (j:= .f v.toNat) (nj:=T) h hd xZ hi;cases hb:bit (fK i (.f v.toNat) T X) .null v.toNat with
   |true=>
    have e:bM T i ((false,v)::l) X=bM T i l (fK i (.f v.toNat) T X):=by simp[bM,hb]
    rw[e];obtain⟨u1,u2⟩:=ih hin.tail _ a1.eG;refine⟨a1.trans u1,fun hz=> ?_⟩;have e1:=u1.still hz;have e2:bit (fK i (.f v.toNat) T X) .gr 0=false:=by rw[<-e1];exact hz
    have e3:=a1.still e2;obtain⟨c1,c2⟩:=u2 hz;rw[e3]at c1 c2 a2⊢;refine⟨fun t ht hbg=> ?_,fun ha=>c2 fun y hy=>ha y (by simp[hy])⟩;rcases Oq hbg with(⟨h1,_⟩|⟨_,h2⟩)|⟨_,_,h3⟩
    ·cases h1
    ·exact a2 t ht h2.2
    ·exact c1 t ht h3
   |false=>
    have e:bM T i ((false,v)::l) X=(fK i (.f v.toNat) T X,false):=by simp[bM,hb]
    rw[e];refine⟨a1,fun hz=> ?_⟩;have e3:=a1.still hz;rw[e3]at hb a2;refine⟨fun t ht hbg=> ?_,fun ha=> ?_⟩
    ·rcases Oq hbg with(⟨h1,_⟩|⟨_,h2⟩)|⟨_,h2,_⟩
     ·cases h1
     ·exact a2 t ht h2.2
     ·have:=h2.2;simp only at this;rw[hb]at this;cases this
    ·have:=(ha (false,v) (by simp)).2.2;simp only at this;rw[hb]at this;cases this
def Zb(T N:Nat)(R:List Ru):Iy->Nat->Prop
 | .null,n=>dS N R n
 | .f n,t=>iy N R t n
 | .g n,t=>oW T N R t n
 | .gr,_=>True
def l8(T N:Nat)(R:List Ru)(X:Xs):Prop:=∀i n m,di T N i=some n->m<n->bit X i m=true->Zb T N R i m
variable{R:List Ru}
theorem Ot{X:Xs}{i:Iy}{n m:Nat}(h:jC T N X)(hd:di T N i=some n)(hm:m<n)(hs:l8 T N R X)(hz:Zb T N R i m):l8 T N R (ko X i m):=by
 have hl:=h i n hd;have hg:=h .gr 1 rfl;cases hb:bit X i m with
 |true=>
  have e:ko X i m=X:=by simp[ko,hb]
  rw[e];exact hs
 |false=>
  have e:ko X i m=bH (bH X i m true) .gr 0 true:=by simp[ko,hb]
  rw[e];have hg':0<(bH X i m true .gr).length:=by rw[rU];omega
  intro j k q hj hq hbq;rw[iW hg',iW (by omega)]at hbq;by_cases c1:j= .gr/\q=0
  ·rw[c1.1];trivial
  ·rw[if_neg c1]at hbq
   by_cases c2:j=i/\q=m
   ·rw[c2.1,c2.2];exact hz
   ·rw[if_neg c2]at hbq
    exact hs j k q hj hq hbq
theorem VJ{X:Xs}{i j:Iy}{n nj kj:Nat}(h:jC T N X)(hd:di T N i=some n)(hle:nj<=n)(hi:i≠ .gr)(hdj:di T N j=some kj)(hlj:nj<=kj)(hs:l8 T N R X)(hz:∀m,m<nj->Zb T N R j m->Zb T N R i m):l8 T N R (fK i j nj X):=by
 induction nj with
 |zero=>exact hs
 |succ k ih=>
  have h1:=(JH (j:=j) (nj:=k) h hd (by omega) hi).1;have h2:=ih (by omega) (by omega) (fun m hm=>hz m (by omega));have e:fK i j (k+1) X=if bit (fK i j k X) j k then ko (fK i j k X) i k else fK i j k X:=rfl
  rw[e];cases hb:bit (fK i j k X) j k with
  |true=>
   simp only[if_true];exact Ot h1.eG hd (by omega) h2 (hz k (by omega) (h2 j kj k hdj (by omega) hb))
  |false=>simpa using h2
theorem VK{i:Iy}{n:Nat}(hd:di T N i=some n)(xZ:T<=n)(hi:i≠ .gr):∀(l:List Sy),rO T N l->(∀q s,l[q]?=some s->kR (dS N R) (l.take q)->(s.1=true->Zb T N R i s.2.toNat)/\(s.1=false->∀t,t<T->Zb T N R (.f s.2.toNat) t->Zb T N R i t))->
 ∀X,jC T N X->l8 T N R X->l8 T N R (bM T i l X).1/\((bM T i l X).2=true->kR (dS N R) l):=by
 intro l
 induction l with
 |nil=>intro _ _ X _ hs;exact⟨hs,fun _ s hs=>by cases hs⟩
 |cons s l ih=>
  intro hin hz X h hs;have hr:=hin s (by simp);have hz0:=hz 0 s (by simp) (by intro x hx;simp at hx);obtain⟨b,v⟩:=s;cases b with
  |true=>
   simp only[if_true]at hr;have e:bM T i ((true,v)::l) X=(ko X i v.toNat,false):=by simp[bM]
   rw[e];exact⟨Ot h hd (by omega) hs (hz0.1 rfl),fun h=>by cases h⟩
  |false=>
   simp only[Bool.false_eq_true,if_false]at hr;have hdj:di T N (.f v.toNat)=some T:=by simp[di];omega
   have a1:=(JH (j:= .f v.toNat) (nj:=T) h hd xZ hi).1;have a2:=VJ (nj:=T) h hd xZ hi hdj (Nat.le_refl _) hs (hz0.2 rfl);cases hb:bit (fK i (.f v.toNat) T X) .null v.toNat with
   |true=>
    have e:bM T i ((false,v)::l) X=bM T i l (fK i (.f v.toNat) T X):=by simp[bM,hb]
    rw[e]
    have vv:dS N R v:=by
     have:=a2 .null N v.toNat rfl (by omega) hb;have e:((v.toNat:Nat):Int)=v:=by omega
     simp only[Zb,e]at this;exact this
    have VL:∀x,x=((false,v):Sy)->x.1=false/\dS N R x.2:=fun x hx=>by subst hx;exact⟨rfl,vv⟩
    obtain⟨c1,c2⟩:=ih hin.tail (fun q x hx ha=>hz (q+1) x (by simpa using hx) (fun y hy=>by
     simp only[List.take_succ_cons,List.mem_cons]at hy;rcases hy with hy|hy
     ·exact VL y hy
     ·exact ha y hy)) _ a1.eG a2
    refine⟨c1,fun h2 y hy=> ?_⟩;rcases List.mem_cons.1 hy with hy|hy
    ·exact VL y hy
    ·exact c2 h2 y hy
   |false=>
    have e:bM T i ((false,v)::l) X=(fK i (.f v.toNat) T X,false):=by simp[bM,hb]
    rw[e];exact⟨a2,fun h=>by cases h⟩
end
section
variable{T N:Nat}
theorem VN{L:Nat}{l:List Sy}(hL:L<N)(hin:rO T N l){X:Xs}(h:jC T N X):Up T N X (kK T L l X)/\
 (bit (kK T L l X) .gr 0=false->(∀t,t<T->jG (qL X) (zT X t) t l->bit X (.f L) t=true)/\(kR (qL X) l->bit X .null L=true)):=by
 have hd:di T N (.f L)=some T:=by simp[di,hL]
 obtain⟨u1,u2⟩:=JI hd (Nat.le_refl _) (by simp) l hin X h;cases hb:(bM T (.f L) l X).2 with
 |true=>
  have e:kK T L l X=ko (bM T (.f L) l X).1 .null L:=by simp[kK,hb]
  obtain⟨p1,p2⟩:=Oo (i:= .null) (n:=N) u1.eG rfl hL (by simp);rw[e];refine⟨u1.trans p1,fun hz=> ?_⟩;have e1:=p1.still hz;rw[e1]at hz p2;obtain⟨c1,_⟩:=u2 hz;rw[u1.still hz]at p2;exact⟨c1,fun _=>p2⟩
 |false=>
  have e:kK T L l X=(bM T (.f L) l X).1:=by simp[kK,hb]
  rw[e];refine⟨u1,fun hz=> ?_⟩;obtain⟨c1,c2⟩:=u2 hz;exact⟨c1,fun ha=>by rw[c2 ha]at hb;cases hb⟩
theorem VO{l:List Sy}{k:Nat}(hk:k<l.length):l.getD k (false,0)∈l:=by simp[List.getD,hk]
theorem JJ{L k:Nat}{l:List Sy}(hL:L<N)(hin:rO T N l)(hk:k<l.length){X:Xs}(h:jC T N X):Up T N X (oL T L l k X)/\
 (bit (oL T L l k X) .gr 0=false->∀v,l[k]?=some (false,v)->(∀t,t<T->jG (qL X) (zT X t) t (l.drop (k+1))->bit X (.g v.toNat) t=true)/\
   (kR (qL X) (l.drop (k+1))->∀t,t<T+1->bit X (.g L) t=true->bit X (.g v.toNat) t=true)):=by
 have hs:=hin _ (VO hk);have lQ:l[k]?=some (l.getD k (false,0)):=by simp[List.getD,hk]
 unfold oL;obtain⟨⟨b,v⟩,hsy⟩:∃x,l.getD k (false,0)=x:=⟨_,rfl⟩;rw[hsy]at hs lQ⊢;cases b with
 |true=>
  simp only[if_true];exact⟨Up.refl h,fun _ v' hv=>by rw[lQ]at hv;cases hv⟩
 |false=>
  simp only[Bool.false_eq_true,if_false]at hs⊢;have hd:di T N (.g v.toNat)=some (T+1):=by simp[di];omega
  have VP:di T N (.g L)=some (T+1):=by simp[di];omega
  obtain⟨u1,u2⟩:=JI hd (by omega) (by simp) (l.drop (k+1)) (hin.drop _) X h;cases hb:(bM T (.g v.toNat) (l.drop (k+1)) X).2 with
  |true=>
   simp only[if_true];obtain⟨a1,a2⟩:=JH (j:= .g L) (nj:=T+1) u1.eG hd (Nat.le_refl _) (by simp);refine⟨u1.trans a1,fun hz v' hv=> ?_⟩;rw[lQ]at hv;cases hv;have e1:=a1.still hz;rw[e1]at hz a2;obtain⟨c1,_⟩:=u2 hz;rw[u1.still hz]at a2;exact⟨c1,fun _=>a2⟩
  |false=>
   simp only[Bool.false_eq_true,if_false];refine⟨u1,fun hz v' hv=> ?_⟩;rw[lQ]at hv;cases hv;obtain⟨c1,c2⟩:=u2 hz;exact⟨c1,fun ha=>by rw[c2 ha]at hb;cases hb⟩
theorem Ou{n:Nat}{f:Nat->Xs->Xs}(hf:∀k,k<n->∀Y,jC T N Y->Up T N Y (f k Y)){X:Xs}(h:jC T N X):Up T N X (bO n f X)/\
 (bit (bO n f X) .gr 0=false->∀k,k<n->bit (f k X) .gr 0=false):=by
 induction n with
 |zero=>exact⟨Up.refl h,fun _ k hk=>absurd hk (Nat.not_lt_zero _)⟩
 |succ n ih=>
  obtain⟨h1,h2⟩:=ih fun k hk=>hf k (by omega);have h3:=hf n (by omega) _ h1.eG;refine⟨h1.trans h3,fun hz k hk=> ?_⟩;have hz':bit (f n (bO n f X)) .gr 0=false:=hz;have e1:=h3.still hz';have hz1:bit (bO n f X) .gr 0=false:=by rw[<-e1];exact hz'
  rcases Nat.lt_succ_iff_lt_or_eq.1 hk with hk|rfl
  ·exact h2 hz1 k hk
  ·rw[h1.still hz1]at hz'
   exact hz'
structure Held(T:Nat)(r:Ru)(X:Xs):Prop where
 null:kR (qL X) r.2->bit X .null r.1.toNat=true
 first:∀t,t<T->jG (qL X) (zT X t) t r.2->bit X (.f r.1.toNat) t=true
 after:∀k v,r.2[k]?=some (false,v)->∀t,t<T->jG (qL X) (zT X t) t (r.2.drop (k+1))->bit X (.g v.toNat) t=true
 follow:∀k v,r.2[k]?=some (false,v)->kR (qL X) (r.2.drop (k+1))->∀t,t<T+1->bit X (.g r.1.toNat) t=true->bit X (.g v.toNat) t=true
structure uZ(T N:Nat)(r:Ru):Prop where
 left:0<=r.1/\r.1<(N:Int)
 right:rO T N r.2
theorem Ov{r:Ru}(hr:uZ T N r){X:Xs}(h:jC T N X):Up T N X (wE T r X)/\(bit (wE T r X) .gr 0=false->Held T r X):=by
 have hL:r.1.toNat<N:=by have:=hr.left;omega
 obtain⟨a1,a2⟩:=VN hL hr.right h;obtain⟨b1,b2⟩:=Ou (n:=r.2.length) (f:=oL T r.1.toNat r.2) (fun k hk Y hY=>(JJ hL hr.right hk hY).1) a1.eG;refine⟨a1.trans b1,fun hz=> ?_⟩;have hz':bit (bO r.2.length (oL T r.1.toNat r.2) (kK T r.1.toNat r.2 X)) .gr 0=false:=hz;have e1:=b1.still hz';have hz1:bit (kK T r.1.toNat r.2 X) .gr 0=false:=by rw[<-e1];exact hz'
 obtain⟨c1,c2⟩:=a2 hz1;have hs:=b2 hz';rw[a1.still hz1]at hs;have hlt:∀{k v},r.2[k]?=some (false,v)->k<r.2.length:=fun h=>(List.getElem?_eq_some_iff.1 h).1;exact⟨c2,c1,fun k v hv=>((JJ hL hr.right (hlt hv) h).2 (hs k (hlt hv)) v hv).1,fun k v hv=>((JJ hL hr.right (hlt hv) h).2 (hs k (hlt hv)) v hv).2⟩
theorem adZ{R:List Ru}(hR:∀q,q<R.length->uZ T N (R.getD q (0,[]))){X:Xs}(h:jC T N X):Up T N X (Cn T R R.length X)/\
 (bit (Cn T R R.length X) .gr 0=false->∀q,q<R.length->Held T (R.getD q (0,[])) X):=by
 obtain⟨b1,b2⟩:=Ou (n:=R.length) (f:=fun q=>wE T (R.getD q (0,[]))) (fun q hq Y hY=>(Ov (hR q hq) hY).1) h;exact⟨b1,fun hz q hq=>(Ov (hR q hq) h).2 (b2 hz q hq)⟩
end
section
variable{T N:Nat}{R:List Ru}
theorem yh{v:Int}(h:0<=v):((v.toNat:Nat):Int)=v:=by omega
theorem ad1(hf:cO T N R){r:Ru}(hr:uZ T N r)(hm:r∈R){X:Xs}(h:jC T N X)(hs:l8 T N R X):l8 T N R (kK T r.1.toNat r.2 X):=by
 have hL:r.1.toNat<N:=by have:=hr.left;omega
 have hd:di T N (.f r.1.toNat)=some T:=by simp[di,hL]
 have ec:=yh hr.left.1
 obtain⟨p1,p2⟩:=VK (R:=R) hd (Nat.le_refl _) (by simp) r.2 hr.right (fun q s hq ha=>⟨fun hb=>by
  have hsr:=hr.right s (List.mem_of_getElem? hq);show iy N R _ _;rw[ec,yh hsr.1];exact jo (Gq hf _ _) _ ⟨r,hm,rfl,q,s,hq,.inl ⟨hb,rfl⟩,ha⟩,fun hb t _ hz=>by
  have hsr:=hr.right s (List.mem_of_getElem? hq);show iy N R _ _;have hz':iy N R t s.2:=by have:iy N R t (s.2.toNat:Nat):=hz;rwa [yh hsr.1]at this
  rw[ec]
  exact jo (Gq hf _ _) _ ⟨r,hm,rfl,q,s,hq,.inr ⟨hb,hz'⟩,ha⟩⟩) X h hs
 have u1:=(JI hd (Nat.le_refl _) (by simp) r.2 hr.right X h).1;unfold kK;cases hb:(bM T (.f r.1.toNat) r.2 X).2 with
 |true=>
  simp only[if_true];refine Ot (i:= .null) u1.eG rfl hL p1 ?_;show dS N R _;rw[ec];exact jo (KD hf) _ ⟨r,hm,rfl,p2 hb⟩
 |false=>simpa using p1
theorem ad2(hf:cO T N R){r:Ru}(hr:uZ T N r)(hm:r∈R){k:Nat}(hk:k<r.2.length){X:Xs}(h:jC T N X)(hs:l8 T N R X):l8 T N R (oL T r.1.toNat r.2 k X):=by
 have hL:r.1.toNat<N:=by have:=hr.left;omega
 have ec:=yh hr.left.1;have hsr:=hr.right _ (VO hk);have lQ:r.2[k]?=some (r.2.getD k (false,0)):=by simp[List.getD,hk]
 unfold oL;obtain⟨⟨b,v⟩,hsy⟩:∃x,r.2.getD k (false,0)=x:=⟨_,rfl⟩;rw[hsy]at hsr lQ⊢;cases b with
 |true=>simpa using hs
 |false=>
  simp only[Bool.false_eq_true,if_false]at hsr⊢;have ev:=yh hsr.1;have hd:di T N (.g v.toNat)=some (T+1):=by simp[di];omega
  have VP:di T N (.g r.1.toNat)=some (T+1):=by simp[di];omega
  have u1:=(JI hd (by omega) (by simp) (r.2.drop (k+1)) (hr.right.drop _) X h).1
  obtain⟨p1,p2⟩:=VK (R:=R) hd (by omega) (by simp) (r.2.drop (k+1)) (hr.right.drop _) (fun q s hq ha=>⟨fun hb=>by
   have hx:=hr.right.drop _ s (List.mem_of_getElem? hq);have hx2:=hx.2;rw[hb]at hx2;simp only[if_true]at hx2;show oW T N R _ _;rw[ev,yh hx.1];exact jo (C9 hf _ _ _) _ (.inr ⟨r,hm,k,lQ,.inl ⟨hx2,q,s,hq,.inl ⟨hb,rfl⟩,ha⟩⟩),fun hb t ht hz=>by
   have hx:=hr.right.drop _ s (List.mem_of_getElem? hq);show oW T N R _ _;have hz':iy N R t s.2:=by have:iy N R t (s.2.toNat:Nat):=hz;rwa [yh hx.1]at this
   rw[ev]
   exact jo (C9 hf _ _ _) _ (.inr ⟨r,hm,k,lQ,.inl ⟨by omega,q,s,hq,.inr ⟨hb,hz'⟩,ha⟩⟩)⟩) X h hs
  cases hb:(bM T (.g v.toNat) (r.2.drop (k+1)) X).2 with
  |true=>
   simp only[if_true];refine VJ u1.eG hd (Nat.le_refl _) (by simp) VP (Nat.le_refl _) p1 fun t _ hz=> ?_;show oW T N R _ _;have hz':oW T N R t r.1:=by have:oW T N R t (r.1.toNat:Nat):=hz;rwa [ec]at this
   rw[ev];exact jo (C9 hf _ _ _) _ (.inr ⟨r,hm,k,lQ,.inr ⟨p2 hb,hz'⟩⟩)
  |false=>simpa using p1
theorem VQ{n:Nat}{f:Nat->Xs->Xs}(hf:∀k,k<n->∀Y,jC T N Y->Up T N Y (f k Y))(hg:∀k,k<n->∀Y,jC T N Y->l8 T N R Y->l8 T N R (f k Y)){X:Xs}(h:jC T N X)(hs:l8 T N R X):l8 T N R (bO n f X):=by
 induction n with
 |zero=>exact hs
 |succ n ih=>
  have h1:=(Ou (n:=n) (f:=f) (fun k hk=>hf k (by omega)) h).1;exact hg n (by omega) _ h1.eG (ih (fun k hk=>hf k (by omega)) fun k hk=>hg k (by omega))
theorem ad3(hf:cO T N R)(hR:∀q,q<R.length->uZ T N (R.getD q (0,[]))){X:Xs}(h:jC T N X)(hs:l8 T N R X):l8 T N R (Cn T R R.length X):=by
 refine VQ (fun q hq Y hY=>(Ov (hR q hq) hY).1) (fun q hq Y hY Iz=> ?_) h hs;have hm:R.getD q (0,[])∈R:=by simp[List.getD,hq]
 have hr:=hR q hq;have hL:(R.getD q (0,[])).1.toNat<N:=by have:=hr.left;omega
 exact VQ (fun k hk Z hZ=>(JJ hL hr.right hk hZ).1) (fun k hk Z hZ hsZ=>ad2 hf hr hm hk hZ hsZ) (VN hL hr.right hY).1.eG (ad1 hf hr hm hY Iz)
theorem ad4(hf:cO T N R){X:Xs}(h:jC T N X)(hs:l8 T N R X)(hH:∀q,q<R.length->Held T (R.getD q (0,[])) X)(h0:bit X (.g 0) T=true):
 (∀n:Nat,n<N->(bit X .null n=true↔dS N R n))/\(∀n t:Nat,n<N->t<T->(bit X (.f n) t=true↔iy N R t n))/\(∀n t:Nat,n<N->t<T+1->(bit X (.g n) t=true↔oW T N R t n)):=by
 have JK:∀r∈R,Held T r X:=fun r hr=>by
  obtain⟨q,hq,rfl⟩:=List.getElem_of_mem hr;have e:R.getD q (0,[])=R[q]:=by simp[List.getD,hq]
  have:=hH q hq
  rwa [e]at this
 have range:∀{i:Iy} {n m:Nat},di T N i=some n->bit X i m=true->m<n:=fun {i n m} hd hb=>by
  have:=Kk hb;rw[h i n hd]at this;exact this
 have mF:∀n,dS N R n->qL X n:=fun n hn=>C8 (Qe R) (A:=qL X) (fun n hn=>by
  obtain⟨r,hr,rfl,ha⟩:=hn
  exact⟨(hf.left r hr).1,(JK r hr).null ha⟩) N n hn
 have Ow:qL X=dS N R:=funext fun n=>propext ⟨fun hn=>by
  have:=hs .null N n.toNat rfl (range rfl hn.2) hn.2;have:dS N R (n.toNat:Nat):=this
  rwa [yh hn.1]at this,mF n⟩
 have pK:∀t:Nat,t<T->∀n,iy N R t n->zT X t n:=fun t ht n hn=>C8 (Qf R _ t) (A:=zT X t) (fun n hn=>by
  obtain⟨r,hr,rfl,ha⟩:=hn
  exact⟨(hf.left r hr).1,(JK r hr).first t ht (by rw[Ow];exact ha)⟩) N n hn
 have ad5:∀n t:Nat,n<N->t<T->bit X (.f n) t=true->iy N R t n:=fun n t hn ht hb=>hs (.f n) T t (by simp[di,hn]) ht hb
 have fol:∀t:Nat,t<T+1->∀n,oW T N R t n->VI X t n:=fun t ht n hn=>C8 (Qg R _ _ T t) (A:=VI X t) (fun n hn=>by
  rcases hn with⟨rfl,hT⟩|⟨r,hr,k,hk,ha⟩
  ·obtain rfl:t=T:=by omega
   exact⟨Int.le_refl _,h0⟩
  ·have hv:=hf.name r hr _ (List.mem_of_getElem? hk) rfl
   refine⟨hv.1,?_⟩;rcases ha with⟨a1,a2⟩|⟨a1,a2⟩
   ·refine(JK r hr).after k _ hk t (by omega) ?_
    rw[Ow];exact a2.mono fun n hn=>pK t (by omega) n hn
   ·exact(JK r hr).follow k _ hk (by rw[Ow];exact a1) t ht a2.2) N n hn
 refine⟨fun n hn=>⟨fun hb=>hs .null N n rfl hn hb,fun hn'=> ?_⟩,fun n t hn ht=>⟨ad5 n t hn ht,fun hn'=> ?_⟩,fun n t hn ht=>⟨fun hb=>hs (.g n) (T+1) t (by simp[di,hn]) ht hb,fun hn'=> ?_⟩⟩
 ·simpa using (mF n hn').2
 ·simpa using (pK t ht n hn').2
 ·simpa using (fol t ht n hn').2
end
section
variable{T N:Nat}
def zU(T N:Nat):List (Iy×Nat):=(List.range N).map (fun n=>(.null,n))++(List.range N).flatMap (fun n=>(List.range T).map fun t=>(.f n,t))++(List.range N).flatMap (fun n=>(List.range (T+1)).map fun t=>(.g n,t))
def left(T N:Nat)(X:Xs):Nat:=((zU T N).filter fun p=> !bit X p.1 p.2).length
theorem ad6{i:Iy}{n m:Nat}(hi:i≠ .gr)(hd:di T N i=some n)(hm:m<n):(i,m)∈zU T N:=by
 cases i with
 |gr=>exact absurd rfl hi
 |null=>simp only[di,Option.some.injEq]at hd;subst hd;simp[zU,hm]
 |f q=>
  simp only[di]at hd;split at hd
  ·cases hd;rename_i hq;simp[zU,hq,hm]
  ·cases hd
 |g q=>
  simp only[di]at hd;split at hd
  ·cases hd;rename_i hq;simp[zU,hq,hm]
  ·cases hd
theorem ad7{X Y:Xs}(h:Up T N X Y)(h1:bit X .gr 0=false)(h2:bit Y .gr 0=true):left T N Y<left T N X:=by
 obtain⟨i,m,n,a1,a2,a3,a4,a5⟩:=h.grew h1 h2;refine(filter_lt _ _ (fun p hp=> ?_) (zU T N)).2 ⟨(i,m),ad6 a1 a2 a3,by simp[a4],by simp[a5]⟩;cases hb:bit X p.1 p.2 with
 |false=>rfl
 |true=>simp[h.up _ _ hb]at hp
theorem ad8{X:Xs}{v:Bool}(h:jC T N X):left T N (bH X .gr 0 v)=left T N X:=by
 have hg:=h .gr 1 rfl;unfold left
 congr 1
 refine List.filter_congr fun p hp=> ?_;rw[iW (by omega),if_neg];rintro ⟨e,_⟩;simp only[zU,List.mem_append,List.mem_map,List.mem_flatMap]at hp;rcases hp with(⟨_,_,rfl⟩|⟨_,_,_,_,rfl⟩)|⟨_,_,_,_,rfl⟩<;>cases e
end
end Go.Proofs.YtpkmpkphfflpjaaGreat
namespace Go.Proofs.YtpkmpkphfflpjaaGreat
open Go.RowKit
section
variable{T N:Nat}{nv:Value}{vf vg:Nat->Value}{gb:Nat}
structure Env(w:World)(B T N:Nat)(K:Nat->Prop)(gx sx:Nat)(rv nv fv gv:Value)(vf vg:Nat->Value)(R:List Ru):Prop where
 g2:w.cell? ⟨gx,2,none⟩=some rv
 s0:w.cell? ⟨sx,0,none⟩=some nv
 s1:w.cell? ⟨sx,1,none⟩=some fv
 s2:w.cell? ⟨sx,2,none⟩=some gv
 gK:¬K gx
 sK:¬K sx
 hr:aD w B rv R
 hF:ku w K N fv vf
 hG:ku w K N gv vg
theorem Env.kept{w w':World}{B:Nat}{K:Nat->Prop}{gx sx:Nat}{rv nv fv gv:Value}{R:List Ru}(h:Env w B T N K gx sx rv nv fv gv vf vg R)(hk:Kept K w w')(hB:∀b,K b->B<=b)(hs:B<=w.heap.size):Env w' B T N K gx sx rv nv fv gv vf vg R:=
 ⟨hk.cell h.gK h.g2,hk.cell h.sK h.s0,hk.cell h.sK h.s1,hk.cell h.sK h.s2,h.gK,h.sK,h.hr.below (hk.below hB hs),h.hF.kept hk,h.hG.kept hk⟩
theorem ad9{w:World}{B gx sx qc:Nat}{qa:Option Addr}{rv fv gv:Value}{X:Xs}{R:List Ru}{r:Ru}(h:Bt w B (aL T N nv vf vg gb) X)(hB:B<=w.heap.size)(hE:Env w B T N (aL T N nv vf vg gb).K gx sx rv nv fv gv vf vg R)
 (gF:uZ T N r) (h8:r.2.length<=8) (hT:T<=8) (hR:iq w B qa r.2) (hqc:r.2.length<=qc):
 Calls Tryz.prog 52 #[.agg #[.int .i64 r.1,.slice qa r.2.length qc],.func (.func 70) #[] #[.pointer (some ⟨gb,0,none⟩)],.pointer (some ⟨sx,0,none⟩)] w fun e w'=>
  e= .returned (.tuple #[])/\Bt w' B (aL T N nv vf vg gb) (wE T r X)/\Kept (aL T N nv vf vg gb).K w w':=by
 obtain⟨L,Rt⟩:=r;obtain⟨hL,jX⟩:=gF;simp only at hL jX h8 hR hqc⊢;obtain⟨l,rfl⟩:∃l:Nat,L=l:=⟨L.toNat,by omega⟩;have VR:l<N:=by omega
 obtain⟨na,nc,tN⟩:=Bt.slice (i:=Iy.null) (n:=N) h rfl;have zS:nv= .slice na N nc:=tN;obtain⟨fa,fc,qF⟩:=hE.hF.1;obtain⟨ga,gc,hgv⟩:=hE.hG.1;clear tN;subst zS;subst qF;subst hgv;have hK1:Kept (aL T N (.slice na N nc) vf vg gb).K w (w.alloc (.cells #[.int .i64 l,.slice qa Rt.length qc] 79)):=(Kept.refl _ _).alloc _;have hE1:=hE.kept hK1 (fun b hb=>Bt.ge h hb) hB;have qo:=hR.below (hK1.below (fun b hb=>Bt.ge h hb) hB);have ahead:=adW (w:=w.alloc (.cells #[.int .i64 l,.slice qa Rt.length qc] 79)) (B:=B) (lc:=qc) (L:=l) (gl:=N) (gc:=gc) (ga:=ga) (la:=qa) (l:=Rt) (Bt.alloc h _) (by simp;omega) VR hE1.hF qo jX (by omega) (by omega);have HS:Hid (wE T ((l:Int),Rt) X=JG T l Rt (kK T l Rt X)):=by show wE T ((l:Int),Rt) X=_;simp[wE]
 have s0:=hE1.s0;have s1:=hE1.s1;have s2:=hE1.s2;have FI:Hid (Env (w.alloc (.cells #[.int .i64 l,.slice qa Rt.length qc] 79)) B T N (aL T N (.slice na N nc) vf vg gb).K gx sx rv (.slice na N nc) (.slice fa N fc) (.slice ga N gc) vf vg R):=hE1;have HRt:Hid (rO T N Rt):=jX;have HRA:Hid (iq (w.alloc (.cells #[.int .i64 l,.slice qa Rt.length qc] 79)) B qa Rt):=qo;have lS:Hid (Kept (aL T N (.slice na N nc) vf vg gb).K w (w.alloc (.cells #[.int .i64 l,.slice qa Rt.length qc] 79))):=hK1;have HB:Hid (Bt w B (aL T N (.slice na N nc) vf vg gb) X):=h;clear hE hE1 hK1 jX hR qo h
 go_enter Tryz.func52,Tryz.ntmps52
 go_wp2_with
  (first
   |(go_at_call 53;refine ahead.mono ?_;rintro e w2 ⟨rfl,hB2,hK2⟩
     have q0:=hK2.cell FI.out.sK s0;have q1:=hK2.cell FI.out.sK s1;have q2:=hK2.cell FI.out.sK s2;have q3:=hK2.cell (p:=⟨w.heap.size,0,none⟩) (Bt.iV HB.out (Nat.le_refl _)) (v:= .int .i64 l) (by simp[go_sem]);have q4:=hK2.cell (p:=⟨w.heap.size,1,none⟩) (Bt.iV HB.out (Nat.le_refl _)) (v:= .slice qa Rt.length qc) (by simp[go_sem]);have hsz2:=hK2.size;have HB2:Hid (Bt w2 B (aL T N (.slice na N nc) vf vg gb) (kK T l Rt X)):=hB2;have fC:Hid (Kept (aL T N (.slice na N nc) vf vg gb).K (w.alloc (.cells #[.int .i64 l,.slice qa Rt.length qc] 79)) w2):=hK2;simp only[World.size_alloc]at hsz2
     clear hB2 hK2 ahead s0 s1 s2)
   |(go_at_call 54
     refine(adY (B:=B) (T:=T) (N:=N) (vf:=vf) (vg:=vg) (gb:=gb) (X:=kK T l Rt X) (l:=Rt) HB2.out ?_ VR hqc (FI.out.kept fC.out ?_ ?_).hF (FI.out.kept fC.out ?_ ?_).hG (HRA.out.below (fC.out.below ?_ ?_)) HRt.out ?_ ?_).mono ?_
     ·omega
     ·exact fun b hb=>Bt.ge HB.out hb
     ·simp;omega
     ·exact fun b hb=>Bt.ge HB.out hb
     ·simp;omega
     ·exact fun b hb=>Bt.ge HB.out hb
     ·simp;omega
     ·omega
     ·omega
     rintro e w3 ⟨rfl,hB3,hK3⟩))
 go_end0
 exact⟨rfl,by rw[HS.out];exact hB3,(lS.out.trans fC.out).trans hK3⟩
structure u7(T N:Nat)(R:List Ru)(X:Xs):Prop where
 eG:jC T N X
 snd:l8 T N R X
 held:bit X .gr 0=false->∀q,q<R.length->Held T (R.getD q (0,[])) X
 fin:bit X (.g 0) T=true
def mD(T N:Nat)(X:Xs):Nat:=2*left T N X+if bit X .gr 0 then 1 else 0
theorem u7.next{R:List Ru}(hf:cO T N R)(hR:∀q,q<R.length->uZ T N (R.getD q (0,[]))){X:Xs}(h:u7 T N R X)(hg:bit X .gr 0=true):
 u7 T N R (Cn T R R.length (bH X .gr 0 false))/\mD T N (Cn T R R.length (bH X .gr 0 false))<mD T N X:=by
 have hl:=h.eG .gr 1 rfl;have s1:jC T N (bH X .gr 0 false):=fun i n hd=>by rw[rU];exact h.eG i n hd
 have n1:l8 T N R (bH X .gr 0 false):=fun i n m hd hm hb=>by
  rw[iW (by omega)]at hb;by_cases c:i= .gr/\m=0
  ·rw[if_pos c]at hb;cases hb
  ·rw[if_neg c]at hb;exact h.snd i n m hd hm hb
 have g1:bit (bH X .gr 0 false) .gr 0=false:=by rw[iW (by omega)];simp
 have f1:bit (bH X .gr 0 false) (.g 0) T=true:=by rw[iW (by omega),if_neg (by simp)];exact h.fin
 obtain⟨u1,u2⟩:=adZ hR s1;refine⟨⟨u1.eG,ad3 hf hR s1 n1,fun hz=> ?_,u1.up _ _ f1⟩,?_⟩
 ·rw[u1.still hz];exact u2 hz
 ·have e:=ad8 (v:=false) h.eG
  unfold mD;rw[hg];cases hz:bit (Cn T R R.length (bH X .gr 0 false)) .gr 0 with
  |true=>have:=ad7 u1 g1 hz;simp only[if_true];omega
  |false=>rw[u1.still hz];simp only[if_true,Bool.false_eq_true,if_false];omega
theorem aea{w:World}{B gx sx:Nat}{rv fv gv:Value}{X:Xs}{R:List Ru}(h:Bt (w.alloc (.cells #[.bool true] 4)) B (aL T N nv vf vg w.heap.size) X)(hB:B<=w.heap.size)
 (hE:Env (w.alloc (.cells #[.bool true] 4)) B T N (aL T N nv vf vg w.heap.size).K gx sx rv nv fv gv vf vg R) (hf:cO T N R) (hR:∀q,q<R.length->uZ T N (R.getD q (0,[]))/\(R.getD q (0,[])).2.length<=8) (hT:T<=8) (h40:R.length<=40) (hA:u7 T N R X):
 Calls Tryz.prog 51 #[rv,.func (.func 52) #[] #[.pointer (some ⟨sx,0,none⟩)]] w fun e w'=>
  e= .returned (.tuple #[])/\∃Y,u7 T N R Y/\bit Y .gr 0=false/\Bt w' B (aL T N nv vf vg w.heap.size) Y/\Kept (aL T N nv vf vg w.heap.size).K (w.alloc (.cells #[.bool true] 4)) w':=by
 refine MC (f:=wE T) (mD:=mD T N) h hB (Om _ _ _ _ _ _) hE.hr (by omega) (fun k hk w1 Y qa qc hK lU Ev hqc=> ?_) (fun args w=>by simp[callFunc,Tryz.func52,Tryz.f52 ]) hA (fun Y hY hg=>hY.next hf (fun q hq=>(hR q hq).1) hg);have e:∀a b c:Value,#[a,b]++ #[c]= #[a,b,c]:=fun a b c=>by simp
 rw[e];have hs:=hK.size;simp only[World.size_alloc]at hs;exact ad9 lU (by omega) (hE.kept hK (fun b hb=>Bt.ge h hb) (by simp;omega)) (hR k hk).1 (hR k hk).2 hT Ev hqc
end
end Go.Proofs.YtpkmpkphfflpjaaGreat
